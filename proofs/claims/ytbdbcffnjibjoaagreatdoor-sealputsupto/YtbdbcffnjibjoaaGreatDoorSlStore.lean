/- seal.store: the value with another one put in at the end of the keys. -/
import Derived.Test.YtbdbcffnjibjoaaGreatDoorSlStA
import Derived.Deep.RegionHeld
namespace Go.Proofs.YtbdbcffnjibjoaaGreatDoor
set_option linter.unusedVariables false
set_option linter.unusedSimpArgs false
open Go.RowKit
attribute [local go_sem high] str_mk
set_option maxRecDepth 100000 in
set_option maxHeartbeats 2000000 in
theorem store_step (key : List UInt8) (r : List (List UInt8)) (e : JV) (k5 n5 : Int) (t5 : List UInt8) (A5 : Option Addr) (m5 c5 : Nat) (B5 : Option Addr) (p5 d5 : Nat)
    (ih : ∀ (v : JV) (cs : List Value) (A : Option Addr) (c : Nat) (F : Nat → Prop) (w : World) (Bk : Nat), Fine v → VOw w F v cs → (∀ b, F b → Bk ≤ b ∧ b < w.heap.size) → Bk ≤ w.heap.size → Holds w Bk 1 A r.length (r.map str) → r.length ≤ c → count v ≤ 1000 →
      Calls Tryz.prog 10 #[.agg cs.toArray, .slice A r.length c, .agg #[.int .i64 k5, .int .i64 n5, str t5, .slice A5 m5 c5, .slice B5 p5 d5]] w (StorePost (putAt r v e) F w))
    (v : JV) (cs : List Value) (A : Option Addr) (c : Nat) (F : Nat → Prop) (w : World) (Bk : Nat) (hfv : Fine v) (hv : VOw w F v cs) (hF : ∀ b, F b → Bk ≤ b ∧ b < w.heap.size) (hBk : Bk ≤ w.heap.size) (hh : Holds w Bk 1 A (r.length + 1) ((key :: r).map str)) (hlc : r.length + 1 ≤ c) (hkl : key.length ≤ 1048576) (hrl : r.length ≤ 100) (hcv : count v ≤ 1000) :
    Calls Tryz.prog 10 #[.agg cs.toArray, .slice A (r.length + 1) c, .agg #[.int .i64 k5, .int .i64 n5, str t5, .slice A5 m5 c5, .slice B5 p5 d5]] w (StorePost (putAt (key :: r) v e) F w) := by
  cases v with
  | mk k n t ks ps =>
  have hv' := hv
  unfold VOw at hv'
  obtain ⟨kv, pv, pc, G, rfl, hk1, hn1, ht, hks, hps, hksl, hrK, hrP, hFk, hFp, hFG, hPO⟩ := hv'
  obtain ⟨Ak, ck, rfl, _⟩ := own_form hrK
  obtain ⟨Ap, cp, rfl, _⟩ := own_form hrP
  obtain ⟨hle, hinc, hfps, _, _⟩ := fine_obj hfv
  have hpl := place_le ks key
  have hps1 : ps.length ≤ 1000 := by have h1 := sl_len_counts ps; simp [count] at hcv; omega
  obtain ⟨kb, ko, hA, hkb, hcells⟩ := hh.2 (by omega)
  subst hA
  have hkey : w.cell? ⟨kb, ko, none⟩ = some (str key) := hcells 0 _ rfl
  -- the three boxes
  have HW0 := Lib.hid (show Below w.heap.size w (((w.alloc (.cells #[.int .i64 k, .int .i64 n, str t, .slice Ak ks.length ck, .slice Ap ps.length cp] 25)).alloc (.cells #[.int .i64 k5, .int .i64 n5, str t5, .slice A5 m5 c5, .slice B5 p5 d5] 25)).alloc (.cells #[.int .i64 0, .int .i64 0, str [], .slice none 0 0, .slice none 0 0] 25)) from
    (((Below.refl _ _).alloc (Nat.le_refl _) _).alloc (by simp) _).alloc (by simp; omega) _)
  have b1 := ((Blk.new w 25 #[.int .i64 k, .int .i64 n, str t, .slice Ak ks.length ck, .slice Ap ps.length cp]).alloc (.cells #[.int .i64 k5, .int .i64 n5, str t5, .slice A5 m5 c5, .slice B5 p5 d5] 25)).alloc (.cells #[.int .i64 0, .int .i64 0, str [], .slice none 0 0, .slice none 0 0] 25)
  have b2 := (Blk.new (w.alloc (.cells #[.int .i64 k, .int .i64 n, str t, .slice Ak ks.length ck, .slice Ap ps.length cp] 25)) 25 #[.int .i64 k5, .int .i64 n5, str t5, .slice A5 m5 c5, .slice B5 p5 d5]).alloc (.cells #[.int .i64 0, .int .i64 0, str [], .slice none 0 0, .slice none 0 0] 25)
  have b3 := Blk.new ((w.alloc (.cells #[.int .i64 k, .int .i64 n, str t, .slice Ak ks.length ck, .slice Ap ps.length cp] 25)).alloc (.cells #[.int .i64 k5, .int .i64 n5, str t5, .slice A5 m5 c5, .slice B5 p5 d5] 25)) 25 #[.int .i64 0, .int .i64 0, str [], .slice none 0 0, .slice none 0 0]
  rw [show (w.alloc (.cells #[.int .i64 k, .int .i64 n, str t, .slice Ak ks.length ck, .slice Ap ps.length cp] 25)).heap.size = w.heap.size + 1 by simp] at b2
  rw [show ((w.alloc (.cells #[.int .i64 k, .int .i64 n, str t, .slice Ak ks.length ck, .slice Ap ps.length cp] 25)).alloc (.cells #[.int .i64 k5, .int .i64 n5, str t5, .slice A5 m5 c5, .slice B5 p5 d5] 25)).heap.size = w.heap.size + 2 by simp] at b3
  have Hsz := Lib.hid (show (((w.alloc (.cells #[.int .i64 k, .int .i64 n, str t, .slice Ak ks.length ck, .slice Ap ps.length cp] 25)).alloc (.cells #[.int .i64 k5, .int .i64 n5, str t5, .slice A5 m5 c5, .slice B5 p5 d5] 25)).alloc (.cells #[.int .i64 0, .int .i64 0, str [], .slice none 0 0, .slice none 0 0] 25)).heap.size = w.heap.size + 3 by simp)
  have H1 := Lib.hid b1
  have H2 := Lib.hid b2
  have H3 := Lib.hid b3
  clear b1 b2 b3 hv
  have hlen0 : ((((r.length + 1 : Nat) : Int)) == 0) = false := by rw [beq_eq_false_iff_ne]; omega
  have hlen1 : (((r.length : Int) + 1) == 0) = false := by rw [beq_eq_false_iff_ne]; omega
  go_enter Tryz.func10, Tryz.ntmps10
  go_wp2_with fail
  generalize hWe : (((w.alloc (.cells #[.int .i64 k, .int .i64 n, str t, .slice Ak ks.length ck, .slice Ap ps.length cp] 25)).alloc (.cells #[.int .i64 k5, .int .i64 n5, str t5, .slice A5 m5 c5, .slice B5 p5 d5] 25)).alloc (.cells #[.int .i64 0, .int .i64 0, str [], .slice none 0 0, .slice none 0 0] 25)) = W0 at *
  have hsz3 : w.heap.size + 3 = W0.heap.size := Hsz.out.symm
  have hkW : W0.cell? ⟨kb, ko, none⟩ = some (str key) := (HW0.out.cell (p := ⟨kb, ko, none⟩) (by show kb < w.heap.size; omega)).trans hkey
  obtain ⟨v0, v1, v2, v3, v4, -, -, -, -, -⟩ := sl_box H1.out
  have hrKW := sl_own_below hrK HW0.out
  have hrPW := sl_own_below hrP HW0.out
  have hPOW : POw W0 G ps pc := POw.kept ps G pc (fun b hb => HW0.out.block b (hF b (hFG b hb).1).2) hPO
  have hhK : Holds W0 W0.heap.size 1 Ak ks.length (ks.map str) := Holds.own hrKW
  have HQ := Lib.hid (fun q => show Calls Tryz.prog 29 #[.slice Ak ks.length ck, str key] (W0.drewN q) (fun e w' => e = .returned (.tuple #[.int .i64 (place ks key), .bool (decide (key ∈ ks))]) ∧ ∃ m, w' = (W0.drewN q).drewN m) from
    bin_any Ak ck ks key (W0.drewN q) W0.heap.size hhK hks hinc)
  -- what the if leaves
  obtain ⟨ks', ps', hat, hp', hputA, hks', hksl', hps', hks1, hcp⟩ : ∃ (ks' : List (List UInt8)) (ps' : List JV) (h : place ks key < ps'.length), Fine ps'[place ks key] ∧ putAt (key :: r) (.mk k n t ks ps) e = .mk k n t ks' (ps'.set (place ks key) (putAt r ps'[place ks key] e)) ∧
      ((key ∈ ks ∧ ks' = ks ∧ ps' = ps) ∨ (key ∉ ks ∧ ks' = ks.insertIdx (place ks key) key ∧ ps' = ps.insertIdx (place ks key) (.mk 7 0 [] [] []))) ∧ (∀ s ∈ ks', s.length ≤ 1048576) ∧ ps'.length ≤ ps.length + 1 ∧ ks'.length ≤ ks.length + 1 ∧ count ps'[place ks key] ≤ 1000 := by
    by_cases hm : key ∈ ks
    · have hp := place_in hinc hm
      have hpp : place ks key < ps.length := by omega
      exact ⟨ks, ps, hpp, fines_at hfps (List.getElem?_eq_getElem hpp), putAt_mem hm hpp, .inl ⟨hm, rfl, rfl⟩, hksl, by omega, by omega, by have h1 := count_at ps _ hpp; simp [count] at hcv; omega⟩
    · obtain ⟨h1, h2, h3⟩ := putAt_new (r := r) (k := k) (n := n) (t := t) (e := e) hm (show place ks key ≤ ps.length by omega)
      refine ⟨_, _, h1, ?_, ?_, .inr ⟨hm, rfl, rfl⟩, fun s hs => ?_, by rw [List.length_insertIdx_of_le_length (by omega)]; omega, by rw [List.length_insertIdx_of_le_length (by omega)]; omega, by rw [h2]; simp [count, counts]⟩
      · rw [h2]; exact ⟨by decide, trivial⟩
      · rw [h3, h2]
      · rcases (List.mem_insertIdx (by omega)).1 hs with h | h
        · rw [h]; exact hkl
        · exact hksl s h
  have Hcase := Lib.hid hks'
  have HputA := Lib.hid hputA
  have Hp' := Lib.hid hp'
  have Hhat := Lib.hid hat
  have HrKW := Lib.hid hrKW
  have HrPW := Lib.hid hrPW
  have HPOW := Lib.hid hPOW
  have HFk := Lib.hid hFk
  have HFp := Lib.hid hFp
  have HFG := Lib.hid hFG
  have HF := Lib.hid hF
  have Hksl' := Lib.hid hksl'
  have Hps' := Lib.hid hps'
  have Hks1 := Lib.hid hks1
  have Hcp := Lib.hid hcp
  have Hhh := Lib.hid hh
  have Hcells := Lib.hid hcells
  have Hih := Lib.hid ih
  have Hpl := Lib.hid hpl
  have Hkl := Lib.hid hkl
  have Hle := Lib.hid hle
  clear hks' hputA hp' hks1 hcp hrKW hrPW hPOW hFk hFp hFG hF hksl' hps' hcells ih hhK hrK hrP hPO hfv hfps hinc hksl hWe hh
  go_quiet (exact Calls.quiet_of (HQ.out _))
  go_upto_if 23 with fail
  have K1 : Blk (W0.drewN nq) w.heap.size 25 #[.int .i64 k, .int .i64 n, str t, .slice Ak ks.length ck, .slice Ap ps.length cp] := H1.out
  have HrK1 := Lib.hid (show (W0.drewN nq).ownsRow 0 9 1 (.slice Ak ks.length ck) ks.length (ks.map str) from HrKW.out)
  have HrP1 := Lib.hid (show (W0.drewN nq).ownsRow 0 25 5 (.slice Ap ps.length cp) ps.length pc from HrPW.out)
  have HPO1 := Lib.hid (show POw (W0.drewN nq) G ps pc from POw.kept (w := W0) (w' := W0.drewN nq) ps G pc (fun b _ => rfl) HPOW.out)
  have HO1 := Lib.hid (show Onl (fun b => F b ∨ b = w.heap.size) W0 (W0.drewN nq) from ⟨rfl, rfl, rfl, Nat.le_refl _, fun _ _ _ => rfl⟩)
  have k1 : (W0.drewN nq).cell? ⟨kb, ko, none⟩ = some (str key) := hkW
  have hz1 : (W0.drewN nq).heap.size = W0.heap.size := rfl
  have HGs := Lib.hid (show ∀ b, G b → b < W0.heap.size from fun b hb => by have h1 := (HF.out b (HFG.out b hb).1).2; omega)
  clear v0 v1 v2 v3 v4 hkW HQ HrKW HrPW HPOW hkey
  generalize W0.drewN nq = W1 at *
  generalize hdb : decide (key ∈ ks) = db at *
  have hsW : W1.heap.size = w.heap.size + 3 := by omega
  have HM1 := Lib.hid (show StM k n t ks ps w.heap.size F W0 W1 (.slice Ak ks.length ck) (.slice Ap ps.length cp) pc G from
    ⟨K1, HrK1.out, HrP1.out, HPO1.out, fun b hb => .inl (HFk.out b hb), fun b hb => .inl (HFp.out b hb), fun b hb => ⟨.inl (HFG.out b hb).1, by have := HGs.out b hb; omega, (HFG.out b hb).2⟩, HO1.out⟩)
  have HbF := Lib.hid (show ¬ F w.heap.size from fun h => by have := (HF.out _ h).2; omega)
  go_cut [] (fun wx => ∃ kv pv xs G, StM k n t ks' ps' w.heap.size F W0 wx kv pv xs G)
  case first =>
    rcases Hcase.out with ⟨hm, e1, e2⟩ | ⟨hm, e1, e2⟩
    · obtain rfl : db = true := by rw [← hdb]; exact decide_eq_true hm
      clear hdb
      go_wp2_with fail
      go_meet
      rw [e1, e2]
      exact ⟨_, _, pc, G, HM1.out⟩
    · obtain rfl : db = false := by rw [← hdb]; exact decide_eq_false hm
      clear hdb
      have Hm := Lib.hid hm
      have He1 := Lib.hid e1
      have He2 := Lib.hid e2
      clear hm e1 e2
      obtain ⟨q0, q1, q2, q3, q4, r0, r1, r2, r3, r4⟩ := sl_box K1
      have HC := Lib.hid (sclone_any key W1.drew Hkl.out)
      have HplK := Lib.hid (show place ks key ≤ ks.length from Hpl.out)
      have Hn1 := Lib.hid (show ks.length + 1 ≤ 1048576 by omega)
      have Hn2 := Lib.hid (show ps.length + 1 ≤ 1048576 by omega)
      have Hng := Lib.hid (show some w.heap.size ≠ (Value.slice Ak ks.length ck).ownBlock by intro e; have h1 := HFk.out _ e.symm; have h2 := (HF.out _ h1).2; omega)
      have HK1 := Lib.hid K1
      clear K1
      generalize place ks key = pl at *
      go_wp2_with fail
      go_region_law (first
        | (go_simp; go_at_call 31; go_fit (HC.out); rintro e w2 ⟨rfl, hb2⟩
           have Hb2 := Lib.hid (show Below W1.heap.size W1 w2 from (below_drewN (Below.refl _ W1) 1).trans hb2)
           have Hbg2 := Lib.hid (HK1.out.below Hb2.out HK1.out.lt)
           have s3 : w2.cell? ⟨w.heap.size, 3, none⟩ = some (.slice Ak ks.length ck) := Hbg2.out.cell 3
           have hg2 : w.heap.size < w2.heap.size := Hbg2.out.lt
           have HI := Lib.hid (insS_own 0 ks.length pl w2.heap.size (.slice Ak ks.length ck) (ks.map str) [str key] (w2.alloc (.cells #[str key] 9)) ((sl_own_below HrK1.out Hb2.out).alloc _) HplK.out Hn1.out (Nat.zero_le _) (Blk.new w2 9 #[str key])
             (by intro e; have h1 := (World.ownsRow.lt HrK1.out _ e.symm).2; have h2 := Hb2.out.size; omega) rfl (sl_str_one ks) (by simp; rfl))
           clear hb2)
        | (go_simp; go_at_call 30; go_fit (HI.out); rintro e w3 ⟨v4, rfl, hown4, hgr4, hat4⟩
           have Hbg3 := Lib.hid ((Hbg2.out.alloc (.cells #[str key] 9)).grown hgr4 Hng.out)
           have x3 : w3.cell? ⟨w.heap.size, 3, none⟩ = some (.slice Ak ks.length ck) := Hbg3.out.cell 3
           have xf : w3.frozen? ⟨w.heap.size, 3, none⟩ = false := Hbg3.out.frozen 3
           have Hown4 := Lib.hid hown4
           have Hgr4 := Lib.hid hgr4
           have Hat4 := Lib.hid hat4
           obtain ⟨A4, c4, hv4, _⟩ := own_form hown4
           clear hown4 hgr4 hat4
           subst hv4))
      all_goals
        have hL1 : (ks.insertIdx pl key).length = ks.length + 1 := List.length_insertIdx_of_le_length HplK.out _
        have hLm : (ks.insertIdx pl key).map str = (ks.map str).take (pl * 1) ++ [str key] ++ (ks.map str).drop (pl * 1) := by
          rw [insertIdx_parts key ks pl HplK.out]; simp [List.map_take, List.map_drop]
        have HM2 := Lib.hid (StM.insK (ks' := ks.insertIdx pl key) (kv' := .slice A4 (ks.length + 1) c4) (HM1.out.same (Hb2.out.trans (((Below.refl _ _).alloc (Nat.le_refl _) (.cells #[str key] 9)).mono Hb2.out.size))) HbF.out (by omega) Hgr4.out (by rw [hL1, hLm]; simpa using Hown4.out) Hat4.out)
        clear hL1 hLm s3 x3 xf Hown4 Hgr4 Hat4 Hbg3 Hbg2 HI
        generalize w3.setCell ⟨w.heap.size, 3, none⟩ (.slice A4 (ks.length + 1) c4) = w4 at *
        obtain ⟨s0, s1, s2, s3, s4, z0, z1, z2, z3, z4⟩ := sl_box HM2.out.box
        have HI2 := Lib.hid (insV_own 0 ps.length pl w4.heap.size (.slice Ap ps.length cp) pc [.int .i64 7, .int .i64 0, str [], .slice none 0 0, .slice none 0 0] (w4.alloc (.cells #[.int .i64 7, .int .i64 0, str [], .slice none 0 0, .slice none 0 0] 25)) (HM2.out.parts.alloc _) (by have h1 := Hle.out; have h2 := HplK.out; omega) Hn2.out (Nat.zero_le _) (Blk.new w4 25 _)
          (by intro e; have h1 := (World.ownsRow.lt HM2.out.parts _ e.symm).2; omega) rfl HM2.out.all.one (empty_ow w4).one)
        go_wp2_with fail
        go_fit (HI2.out)
        rintro e w5 ⟨pv5, rfl, hown5, hgr5, hat5⟩
        obtain ⟨A6, c6, hv6, _⟩ := own_form hown5
        subst hv6
        have hplp : pl ≤ ps.length := by have h1 := Hle.out; have h2 := HplK.out; omega
        have hL2 : (ps.insertIdx pl (.mk 7 0 [] [] [])).length = ps.length + 1 := List.length_insertIdx_of_le_length hplp _
        have HM3 := Lib.hid (StM.insP (ps' := ps.insertIdx pl (.mk 7 0 [] [] [])) (pv' := .slice A6 (ps.length + 1) c6) (HM2.out.same ((Below.refl _ _).alloc (Nat.le_refl _) _)) HbF.out (by omega) hgr5 (by rw [hL2]; exact hown5) hat5 (fun W h => POw.insEmpty pl hplp h))
        have hb5 := (HM2.out.box.alloc (.cells #[.int .i64 7, .int .i64 0, str [], .slice none 0 0, .slice none 0 0] 25)).grown hgr5 (by intro e; rcases HM2.out.fp _ e.symm with h1 | h1 <;> first | exact HbF.out h1 | omega)
        obtain ⟨x0, x1, x2, x3, x4, y0, y1, y2, y3, y4⟩ := sl_box hb5
        clear hown5 hgr5 hat5 hb5 hL2 s0 s1 s2 s3 s4 z0 z1 z2 z3 z4
        go_wp2_with fail
        go_meet
        rw [He1.out, He2.out]
        exact ⟨_, _, _, _, HM3.out⟩
  case rest =>
    generalize wc = wa at *
    obtain ⟨kv, pv, xs, G', hM⟩ := hcut
    have HM := Lib.hid hM
    obtain ⟨Ak', ck', hkv, _⟩ := own_form hM.keys
    obtain ⟨Ap', cp', hpv, _⟩ := own_form hM.parts
    subst hkv hpv
    clear hM HM1 HrK1 HrP1 HPO1 HO1 K1 hdb hsW HGs HFk HFp HFG Hcase
    obtain ⟨cp1, G1, hvp, hG1, hcl, hset⟩ := POw.at_ (place ks key) Hhat.out HM.out.all
    obtain ⟨k2, n2, t2, Ak2, nk2, ck2, Ap2, np2, cp2, hcs2⟩ := hvp.form
    subst hcs2
    have Hvp := Lib.hid hvp
    have HG1 := Lib.hid hG1
    have Hset := Lib.hid hset
    -- the cells of the part
    obtain ⟨pb, hpb, hpcell⟩ : ∃ pb, Ap' = some ⟨pb, 0, none⟩ ∧ ∀ j u, xs[j]? = some u → wa.cell? ⟨pb, j, none⟩ = some u := by
      rcases HM.out.parts.2 with ⟨h1, h2⟩ | ⟨g, cap, cur, h1, _, h3, h4, h5, h6, h7⟩
      · have := Hhat.out; omega
      · injection h1 with e1 e2 e3
        refine ⟨g, e1, fun j u hu => ?_⟩
        have h8 := World.ownsRow.cells HM.out.parts (g := g) (by rw [e1]; rfl) j u hu
        rwa [plus_addr, Nat.zero_add] at h8
    subst hpb
    have HgW := Lib.hid (show ∀ b, G' b → Bk ≤ b from fun b hb => by
      rcases (HM.out.fg b hb).1 with h1 | h1
      · exact (HF.out b h1).1
      · omega)
    have hbvG : ¬ G' w.heap.size := fun h => by
      rcases (HM.out.fg _ h).1 with h1 | h1
      · exact HbF.out h1
      · omega
    have hbeG : ∀ b, w.heap.size < b → b < W0.heap.size → ¬ G' b := fun b h1 h2 h => by
      rcases (HM.out.fg _ h).1 with h3 | h3
      · have := (HF.out b h3).2; omega
      · omega
    have hWc : W0.heap.size ≤ wa.heap.size := HM.out.onl.size
    have HbelB := Lib.hid (show Below Bk w wa from (HW0.out.mono hBk).trans (HM.out.onl.below (by omega) (fun b hb => by
      rcases hb with h1 | h1
      · exact (HF.out b h1).1
      · omega)))
    have Hend := Lib.hid (show Blk wa (w.heap.size + 1) 25 #[.int .i64 k5, .int .i64 n5, str t5, .slice A5 m5 c5, .slice B5 p5 d5] from (HM.out.onl.block _ (by omega) (fun h => by
      rcases h with h1 | h1
      · have := (HF.out _ h1).2; omega
      · omega)).trans H2.out)
    have Hres := Lib.hid (show Blk wa (w.heap.size + 2) 25 #[.int .i64 0, .int .i64 0, str [], .slice none 0 0, .slice none 0 0] from (HM.out.onl.block _ (by omega) (fun h => by
      rcases h with h1 | h1
      · have := (HF.out _ h1).2; omega
      · omega)).trans H3.out)
    obtain ⟨Ac, hAc⟩ : ∃ Ac, Ac = cutAt (some ⟨kb, ko, none⟩) c 1 1 := ⟨_, rfl⟩
    have hsl : ∀ W, (Instr.slice 22 (.slice (some ⟨kb, ko, none⟩) (r.length + 1) c) (some (.int .i64 1)) none none).run Tryz.prog W = .ok (.slice Ac r.length (c - 1)) W := by
      intro W
      obtain ⟨i0, hi0, hz0, hz1, hz2⟩ := info_parts sl_info_str
      have h := run_cut_l (P := Tryz.prog) W 22 9 i0 Tryz.underlying22 hi0 (some ⟨kb, ko, none⟩) (r.length + 1) c .i64 1 1 rfl (by omega)
      rw [hz1, ← hAc] at h
      simpa using h
    have HHr := Lib.hid (show Holds wa Bk 1 Ac r.length (r.map str) by
      have h := (Hhh.out.kept (fun p hp => HbelB.out.cell hp)).cut (c := c) (lo := 1) (hg := r.length + 1) (by omega) (Nat.le_refl _) (by omega)
      rw [← hAc] at h
      have e2 : (((key :: r).map str).drop (1 * 1)).take ((r.length + 1 - 1) * 1) = r.map str := by
        rw [Nat.mul_one, Nat.mul_one, List.map_cons, List.drop_succ_cons, List.drop_zero]; exact List.take_of_length_le (by simp)
      rw [e2] at h
      simpa using h)
    have HI := Lib.hid (Hih.out ps'[place ks key] [.int .i64 k2, .int .i64 n2, str t2, .slice Ak2 nk2 ck2, .slice Ap2 np2 cp2] Ac (c - 1) G1 wa.drew Bk Hp'.out (VOw.kept (w := wa) (w' := wa.drew) _ _ _ (fun b _ => rfl) Hvp.out) (fun b hb => ⟨HgW.out b (HG1.out b hb), (HM.out.fg b (HG1.out b hb)).2.1⟩)
      (Nat.le_trans hBk (by have := HW0.out.size; show w.heap.size ≤ wa.heap.size; omega)) HHr.out (by omega) Hcp.out)
    obtain ⟨v0, v1, v2, v3, v4, -, -, -, -, -⟩ := sl_box HM.out.box
    obtain ⟨e0, e1, e2, e3, e4, -, -, -, -, -⟩ := sl_box Hend.out
    have hpl2 := Hhat.out
    have x0 : wa.cell? ⟨pb, place ks key * 5, none⟩ = some (.int .i64 k2) := hpcell _ _ (hcl 0 _ rfl)
    have x1 : wa.cell? ⟨pb, place ks key * 5 + 1, none⟩ = some (.int .i64 n2) := hpcell _ _ (hcl 1 _ rfl)
    have x2 : wa.cell? ⟨pb, place ks key * 5 + 2, none⟩ = some (str t2) := hpcell _ _ (hcl 2 _ rfl)
    have x3 : wa.cell? ⟨pb, place ks key * 5 + 3, none⟩ = some (.slice Ak2 nk2 ck2) := hpcell _ _ (hcl 3 _ rfl)
    have x4 : wa.cell? ⟨pb, place ks key * 5 + 4, none⟩ = some (.slice Ap2 np2 cp2) := hpcell _ _ (hcl 4 _ rfl)
    have Hcl := Lib.hid hcl
    have HpbG := Lib.hid (show ¬ G1 pb from fun h => (HM.out.fg pb (HG1.out pb h)).2.2.2 rfl)
    have HbvG := Lib.hid hbvG
    have HbeG := Lib.hid hbeG
    have HpbN := Lib.hid (show pb ≠ w.heap.size ∧ pb ≠ w.heap.size + 1 ∧ pb ≠ w.heap.size + 2 by
      have h1 := HM.out.fp pb rfl
      rcases h1 with h1 | h1
      · have := (HF.out pb h1).2; omega
      · omega)
    clear hset hG1 hvp hcl hpcell hbvG hbeG hAc
    generalize hv6 : putAt r ps'[place ks key] e = v6 at *
    clear hv6
    generalize hple : place ks key = pl at *
    have Hple := Lib.hid hple
    clear hple
    have hplI : (pl : Int) < (ps'.length : Int) := by omega
    have Hn1 := Lib.hid (show w.heap.size ≠ pb from fun h => HpbN.out.1 h.symm)
    have Hn2 := Lib.hid (show w.heap.size + 1 ≠ pb from fun h => HpbN.out.2.1 h.symm)
    have d4 : wa.drew.cell? ⟨w.heap.size, 4, none⟩ = some (.slice (some ⟨pb, 0, none⟩) ps'.length cp') := v4
    have f0 : wa.drew.cell? ⟨w.heap.size + 1, 0, none⟩ = some (.int .i64 k5) := e0
    have f1 : wa.drew.cell? ⟨w.heap.size + 1, 1, none⟩ = some (.int .i64 n5) := e1
    have f2 : wa.drew.cell? ⟨w.heap.size + 1, 2, none⟩ = some (str t5) := e2
    have f3 : wa.drew.cell? ⟨w.heap.size + 1, 3, none⟩ = some (.slice A5 m5 c5) := e3
    have f4 : wa.drew.cell? ⟨w.heap.size + 1, 4, none⟩ = some (.slice B5 p5 d5) := e4
    go_wp2_with fail
    have HM' := Lib.hid HM.out
    go_cut [] (fun wx => ∃ (w2 : World) (F' : Nat → Prop) (k6 n6 : Int) (t6 : List UInt8) (Ak6 : Option Addr) (nk6 ck6 : Nat) (Ap6 : Option Addr) (np6 cp6 : Nat),
      wx = (((((w2.setCell ⟨pb, pl * 5, none⟩ (.int .i64 k6)).setCell ⟨pb, pl * 5 + 1, none⟩ (.int .i64 n6)).setCell ⟨pb, pl * 5 + 2, none⟩ (str t6)).setCell ⟨pb, pl * 5 + 3, none⟩ (.slice Ak6 nk6 ck6)).setCell ⟨pb, pl * 5 + 4, none⟩ (.slice Ap6 np6 cp6)) ∧
      VOw w2 F' v6 [.int .i64 k6, .int .i64 n6, str t6, .slice Ak6 nk6 ck6, .slice Ap6 np6 cp6] ∧ (∀ b, F' b → (G1 b ∨ wa.heap.size ≤ b) ∧ b < w2.heap.size) ∧ Onl G1 wa w2)
    case first =>
      go_region_law (first
        | (go_simp; go_at_call 10; go_fit (HI.out); rintro e' w2 ⟨cs', F', rfl, hvw', hF', honl⟩
           have Hvw' := Lib.hid hvw'
           have HF' := Lib.hid hF'
           have Honl := Lib.hid (show Onl G1 wa w2 from ⟨honl.os, honl.tape, honl.output, honl.size, honl.block⟩)
           have Hbx := Lib.hid (show Blk w2 w.heap.size 25 #[.int .i64 k, .int .i64 n, str t, .slice Ak' ks'.length ck', .slice (some ⟨pb, 0, none⟩) ps'.length cp'] from (Honl.out.block _ HM.out.box.lt (fun h => HbvG.out (HG1.out _ h))).trans HM.out.box)
           have Hen := Lib.hid (show Blk w2 (w.heap.size + 1) 25 #[.int .i64 k5, .int .i64 n5, str t5, .slice A5 m5 c5, .slice B5 p5 d5] from (Honl.out.block _ Hend.out.lt (fun h => HbeG.out (w.heap.size + 1) (by omega) (by omega) (HG1.out _ h))).trans Hend.out)
           have HrP2 := Lib.hid (sl_own_kept HM.out.parts (w' := w2) (fun b hb => by
             have e : pb = b := by simpa [Value.ownBlock] using hb
             subst e
             exact Honl.out.block pb (World.ownsRow.lt HM.out.parts pb rfl).2 HpbG.out))
           have u4 : w2.cell? ⟨w.heap.size, 4, none⟩ = some (.slice (some ⟨pb, 0, none⟩) ps'.length cp') := Hbx.out.cell 4
           obtain ⟨g0, g1, g2, g3, g4, -, -, -, -, -⟩ := sl_box Hen.out
           have t0 := row_cell HrP2.out (Hcl.out 0 _ rfl)
           have t1 := row_cell HrP2.out (Hcl.out 1 _ rfl)
           have t2' := row_cell HrP2.out (Hcl.out 2 _ rfl)
           have t3 := row_cell HrP2.out (Hcl.out 3 _ rfl)
           have t4 := row_cell HrP2.out (Hcl.out 4 _ rfl)
           have y0 := row_frozen (j := pl * 5) HrP2.out
           have y1 := row_frozen (j := pl * 5 + 1) HrP2.out
           have y2 := row_frozen (j := pl * 5 + 2) HrP2.out
           have y3 := row_frozen (j := pl * 5 + 3) HrP2.out
           have y4 := row_frozen (j := pl * 5 + 4) HrP2.out
           simp only [Nat.add_zero] at t0
           obtain ⟨k6, n6, t6, Ak6, nk6, ck6, Ap6, np6, cp6, hcs6⟩ := hvw'.form
           have Hcs6 := Lib.hid hcs6
           subst hcs6
           clear hvw' hF' honl))
      all_goals
        go_wp2_with fail
        go_meet
        exact ⟨w2, F', k6, n6, t6, Ak6, nk6, ck6, Ap6, np6, cp6, rfl, Hvw'.out, HF'.out, Honl.out⟩
    case rest =>
      obtain ⟨w2, F', k6, n6, t6, Ak6, nk6, ck6, Ap6, np6, cp6, hwx, hvw', hF', honl⟩ := hcut
      clear HI hsl x0 x1 x2 x3 x4 v0 v1 v2 v3 v4 e0 e1 e2 e3 e4 d4 f0 f1 f2 f3 f4
      have hW2 : wa.heap.size ≤ w2.heap.size := honl.size
      have HrP2 := sl_own_kept HM.out.parts (w' := w2) (fun b hb => by
        have e : pb = b := by simpa [Value.ownBlock] using hb
        subst e
        exact honl.block pb (World.ownsRow.lt HM.out.parts pb rfl).2 HpbG.out)
      have HrPx := own_set5 HrP2 (i := pl) Hhat.out (.int .i64 k6) (.int .i64 n6) (str t6) (.slice Ak6 nk6 ck6) (.slice Ap6 np6 cp6)
      have hk2 : ∀ b, b ≠ pb → (((((w2.setCell ⟨pb, pl * 5, none⟩ (.int .i64 k6)).setCell ⟨pb, pl * 5 + 1, none⟩ (.int .i64 n6)).setCell ⟨pb, pl * 5 + 2, none⟩ (str t6)).setCell ⟨pb, pl * 5 + 3, none⟩ (.slice Ak6 nk6 ck6)).setCell ⟨pb, pl * 5 + 4, none⟩ (.slice Ap6 np6 cp6)).heap[b]? = w2.heap[b]? := fun b hb => sl_block5' hb _ _ _ _ _
      have hsx : (((((w2.setCell ⟨pb, pl * 5, none⟩ (.int .i64 k6)).setCell ⟨pb, pl * 5 + 1, none⟩ (.int .i64 n6)).setCell ⟨pb, pl * 5 + 2, none⟩ (str t6)).setCell ⟨pb, pl * 5 + 3, none⟩ (.slice Ak6 nk6 ck6)).setCell ⟨pb, pl * 5 + 4, none⟩ (.slice Ap6 np6 cp6)).heap.size = w2.heap.size := by simp [World.setCell]
      rw [← hwx] at HrPx hk2 hsx
      have hosx : wc.os = w2.os ∧ wc.tape = w2.tape ∧ wc.output = w2.output := by rw [hwx]; exact ⟨rfl, rfl, rfl⟩
      clear hwx
      have hK2 : ∀ b, b < wa.heap.size → ¬ G1 b → b ≠ pb → wc.heap[b]? = wa.heap[b]? := fun b h1 h2 h3 => (hk2 b h3).trans (honl.block b h1 h2)
      have hbx : Blk wc w.heap.size 25 #[.int .i64 k, .int .i64 n, str t, .slice Ak' ks'.length ck', .slice (some ⟨pb, 0, none⟩) ps'.length cp'] := (hK2 _ HM.out.box.lt (fun h => HbvG.out (HG1.out _ h)) Hn1.out).trans HM.out.box
      have hre : Blk wc (w.heap.size + 2) 25 #[.int .i64 0, .int .i64 0, str [], .slice none 0 0, .slice none 0 0] := (hK2 _ Hres.out.lt (fun h => HbeG.out (w.heap.size + 2) (by omega) (by omega) (HG1.out _ h)) (fun h => HpbN.out.2.2 h.symm)).trans Hres.out
      have HrKx := sl_own_kept HM.out.keys (w' := wc) (fun b hb => hK2 b (World.ownsRow.lt HM.out.keys b hb).2 (fun h => (HM.out.fg b (HG1.out b h)).2.2.1 hb) (fun h => by
        subst h
        rcases sl_apart HM.out.keys HM.out.parts (by decide) with h1 | h1
        · rw [h1] at hb; cases hb
        · exact h1 (hb.trans rfl)))
      have hpbF' : ¬ F' pb := fun h => by
        rcases (hF' pb h).1 with h1 | h1
        · exact HpbG.out h1
        · have := (World.ownsRow.lt HM.out.parts pb rfl).2; omega
      have hVx := VOw.kept (w' := wc) _ _ _ (fun b hb => hk2 b (fun h => hpbF' (h ▸ hb))) hvw'
      have hPx := Hset.out wc v6 _ F' (fun b h1 h2 => hK2 b (HM.out.fg b h1).2.1 h2 (fun h => by subst h; exact (HM.out.fg _ h1).2.2.2 rfl)) hVx (fun b hb => by
        rcases (hF' b hb).1 with h1 | h1
        · exact .inl h1
        · exact .inr (fun h => by have := (HM.out.fg b h).2.1; omega))
      have HrKx' := Lib.hid HrKx
      have HrPx' := Lib.hid HrPx
      have HPx := Lib.hid hPx
      have HF2 := Lib.hid hF'
      have HK2 := Lib.hid hK2
      have Hosx := Lib.hid hosx
      have Honl2 := Lib.hid honl
      have Hsx := Lib.hid hsx
      obtain ⟨v0, v1, v2, v3, v4, -, -, -, -, -⟩ := sl_box hbx
      obtain ⟨o0, o1, o2, o3, o4, z0, z1, z2, z3, z4⟩ := sl_box hre
      have Hre := Lib.hid hre
      clear hbx hre HrKx HrPx hPx hF' hK2 hosx honl hsx hk2 hVx hvw' hpbF' HrP2
      go_wp2_with fail
      refine ret_v1 (by rfl) (by rfl) (sl_set5 Hre.out _ _ _ _ _) (by rfl) ?_
      have h5 : ∀ b, b ≠ w.heap.size + 2 → (((((wc.setCell ⟨w.heap.size + 2, 0, none⟩ (.int .i64 k)).setCell ⟨w.heap.size + 2, 1, none⟩ (.int .i64 n)).setCell ⟨w.heap.size + 2, 2, none⟩ (str t)).setCell ⟨w.heap.size + 2, 3, none⟩ (.slice Ak' ks'.length ck')).setCell ⟨w.heap.size + 2, 4, none⟩ (.slice (some ⟨pb, 0, none⟩) ps'.length cp')).heap[b]? = wc.heap[b]? := fun b hb => sl_block5 hb _ _ _ _ _
      have hs5 := sl_size5 wc (w.heap.size + 2) (.int .i64 k) (.int .i64 n) (str t) (.slice Ak' ks'.length ck') (.slice (some ⟨pb, 0, none⟩) ps'.length cp')
      have hfar : ∀ b, F b ∨ W0.heap.size ≤ b → (F b ∨ w.heap.size ≤ b) ∧ b ≠ w.heap.size + 2 := fun b hb => by
        rcases hb with h1 | h1
        · have := (HF.out b h1).2; exact ⟨.inl h1, by omega⟩
        · exact ⟨.inr (by omega), by omega⟩
      have hsx := Hsx.out
      have hG'' : ∀ b, G' b ∨ F' b → (F b ∨ W0.heap.size ≤ b) ∧ b < wc.heap.size ∧ (Value.slice Ak' ks'.length ck').ownBlock ≠ some b ∧ (Value.slice (some ⟨pb, 0, none⟩) ps'.length cp').ownBlock ≠ some b := fun b hb => by
        rcases hb with h1 | h1
        · have h2 := HM.out.fg b h1
          exact ⟨h2.1, by omega, h2.2.2⟩
        · have h2 := HF2.out b h1
          rcases h2.1 with h3 | h3
          · have h4 := HM.out.fg b (HG1.out b h3)
            exact ⟨h4.1, by omega, h4.2.2⟩
          · refine ⟨.inr (by omega), by omega, fun e => ?_, fun e => ?_⟩
            · have := (World.ownsRow.lt HM.out.keys b e).2; omega
            · have := (World.ownsRow.lt HM.out.parts b e).2; omega
      refine ⟨[.int .i64 k, .int .i64 n, str t, .slice Ak' ks'.length ck', .slice (some ⟨pb, 0, none⟩) ps'.length cp'], fun b => (F b ∨ w.heap.size ≤ b) ∧ b < wc.heap.size, rfl, ?_, fun b hb => ⟨hb.1, by rw [hs5]; exact hb.2⟩, ?_⟩
      · rw [HputA.out]
        unfold VOw
        refine ⟨.slice Ak' ks'.length ck', .slice (some ⟨pb, 0, none⟩) ps'.length cp', xs.take (pl * 5) ++ [.int .i64 k6, .int .i64 n6, str t6, .slice Ak6 nk6 ck6, .slice Ap6 np6 cp6] ++ xs.drop (pl * 5 + 5), fun b => G' b ∨ F' b, rfl, hk1, hn1, ht, by have := Hks1.out; omega, by rw [List.length_set]; have := Hps'.out; omega, Hksl'.out, ?_, ?_, fun b hb => ?_, fun b hb => ?_, fun b hb => ?_, ?_⟩
        · exact sl_own_kept HrKx'.out fun b hb => h5 b (hfar b (HM.out.fk b hb)).2
        · rw [List.length_set]
          exact sl_own_kept HrPx'.out fun b hb => h5 b (hfar b (HM.out.fp b hb)).2
        · exact ⟨(hfar b (HM.out.fk b hb)).1, by have := (World.ownsRow.lt HM.out.keys b hb).2; omega⟩
        · exact ⟨(hfar b (HM.out.fp b hb)).1, by have := (World.ownsRow.lt HM.out.parts b hb).2; omega⟩
        · have h := hG'' b hb
          exact ⟨⟨(hfar b h.1).1, h.2.1⟩, h.2.2⟩
        · exact POw.kept _ _ _ (fun b hb => h5 b (hfar b (hG'' b hb).1).2) HPx.out
      · refine ⟨?_, ?_, ?_, ?_, fun b hb hn => ?_⟩
        · exact (Hosx.out.1.trans Honl2.out.os).trans (HM.out.onl.os.trans HW0.out.os)
        · exact (Hosx.out.2.1.trans Honl2.out.tape).trans (HM.out.onl.tape.trans HW0.out.tape)
        · exact (Hosx.out.2.2.trans Honl2.out.output).trans (HM.out.onl.output.trans HW0.out.output)
        · rw [hs5]; omega
        · have hnG : ¬ G' b := fun h => by
            rcases (HM.out.fg b h).1 with h1 | h1
            · exact hn h1
            · omega
          have hnp : b ≠ pb := fun h => by
            rcases HM.out.fp pb rfl with h1 | h1
            · exact hn (by rw [h]; exact h1)
            · omega
          rw [h5 b (by omega), HK2.out b (by omega) (fun h => hnG (HG1.out b h)) hnp, HM.out.onl.block b (by omega) (fun h => by
            rcases h with h1 | h1
            · exact hn h1
            · omega), HW0.out.block b hb]
set_option maxRecDepth 100000 in
set_option maxHeartbeats 1000000 in
theorem store_nil (e : JV) (k5 n5 : Int) (t5 : List UInt8) (he : ∀ W, VOw W (fun _ => False) e [.int .i64 k5, .int .i64 n5, str t5, .slice none 0 0, .slice none 0 0]) (v : JV) (cs : List Value) (A : Option Addr) (c : Nat) (F : Nat → Prop) (w : World) (hv : VOw w F v cs) :
    Calls Tryz.prog 10 #[.agg cs.toArray, .slice A 0 c, .agg #[.int .i64 k5, .int .i64 n5, str t5, .slice none 0 0, .slice none 0 0]] w (StorePost (putAt [] v e) F w) := by
  obtain ⟨k, n, t, Ak, nk, ck, Ap, np, cp, rfl⟩ := hv.form
  have He := Lib.hid he
  have HO : Onl F w (((w.alloc (.cells #[.int .i64 k, .int .i64 n, str t, .slice Ak nk ck, .slice Ap np cp] 25)).alloc (.cells #[.int .i64 k5, .int .i64 n5, str t5, .slice none 0 0, .slice none 0 0] 25)).alloc (.cells #[.int .i64 k5, .int .i64 n5, str t5, .slice none 0 0, .slice none 0 0] 25)) :=
    Below.onl ((((Below.refl _ _).alloc (Nat.le_refl _) _).alloc (by simp) _).alloc (by simp; omega) _)
  have b3 := Blk.new ((w.alloc (.cells #[.int .i64 k, .int .i64 n, str t, .slice Ak nk ck, .slice Ap np cp] 25)).alloc (.cells #[.int .i64 k5, .int .i64 n5, str t5, .slice none 0 0, .slice none 0 0] 25)) 25 #[.int .i64 k5, .int .i64 n5, str t5, .slice none 0 0, .slice none 0 0]
  rw [show ((w.alloc (.cells #[.int .i64 k, .int .i64 n, str t, .slice Ak nk ck, .slice Ap np cp] 25)).alloc (.cells #[.int .i64 k5, .int .i64 n5, str t5, .slice none 0 0, .slice none 0 0] 25)).heap.size = w.heap.size + 1 + 1 by simp] at b3
  have HO' := Lib.hid HO
  have H3 := Lib.hid b3
  clear HO b3 he hv
  go_enter Tryz.func10, Tryz.ntmps10
  go_wp2_with fail
  refine ret_v1 (by rfl) (by rfl) H3.out (by rfl) ?_
  exact ⟨[.int .i64 k5, .int .i64 n5, str t5, .slice none 0 0, .slice none 0 0], fun _ => False, rfl, He.out _, fun b h => h.elim, HO'.out⟩
/-- seal.store along a path. -/
theorem store_ow (e : JV) (k5 n5 : Int) (t5 : List UInt8) (he : ∀ W, VOw W (fun _ => False) e [.int .i64 k5, .int .i64 n5, str t5, .slice none 0 0, .slice none 0 0]) : ∀ (keys : List (List UInt8)), keys.length ≤ 100 → (∀ s ∈ keys, s.length ≤ 1048576) →
    ∀ (v : JV) (cs : List Value) (A : Option Addr) (c : Nat) (F : Nat → Prop) (w : World) (Bk : Nat), Fine v → VOw w F v cs → (∀ b, F b → Bk ≤ b ∧ b < w.heap.size) → Bk ≤ w.heap.size → Holds w Bk 1 A keys.length (keys.map str) → keys.length ≤ c → count v ≤ 1000 →
      Calls Tryz.prog 10 #[.agg cs.toArray, .slice A keys.length c, .agg #[.int .i64 k5, .int .i64 n5, str t5, .slice none 0 0, .slice none 0 0]] w (StorePost (putAt keys v e) F w)
  | [], _, _, v, cs, A, c, F, w, Bk, hfv, hv, hF, hBk, hh, hlc, hcv => store_nil e k5 n5 t5 he v cs A c F w hv
  | key :: r, hl, hk, v, cs, A, c, F, w, Bk, hfv, hv, hF, hBk, hh, hlc, hcv => by
    have hl' : r.length + 1 ≤ 100 := by simpa using hl
    exact store_step key r e k5 n5 t5 none 0 0 none 0 0 (fun v cs A c F w Bk h1 h2 h3 h4 h5 h6 h7 => store_ow e k5 n5 t5 he r (by omega) (fun s hs => hk s (List.mem_cons_of_mem _ hs)) v cs A c F w Bk h1 h2 h3 h4 h5 h6 h7) v cs A c F w Bk hfv hv hF hBk hh hlc (hk key (by simp)) (by omega) hcv
end Go.Proofs.YtbdbcffnjibjoaaGreatDoor
