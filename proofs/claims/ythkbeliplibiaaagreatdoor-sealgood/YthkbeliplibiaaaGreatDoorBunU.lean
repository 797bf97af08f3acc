/- Joined texts: SlObjW, SlBx. -/
import Derived.Test.YthkbeliplibiaaaGreatDoorBunT
import Derived.Test.YthkbeliplibiaaaGreatDoorJGenW
import Derived.Test.YthkbeliplibiaaaGreatDoorSlChk
/- ObjectOf of the statements: what the call returns. -/
namespace Go.Proofs.YthkbeliplibiaaaGreatDoor
set_option linter.unusedVariables false
set_option linter.unusedSimpArgs false
open Go.RowKit
/-- An append of one key, as a step of a region that draws; what lies beside both rows stays. -/
theorem step_putK2 {W : World} {ops : Array Oper} {o : Oper} {a : Act} {K : Act → World → Prop} {Q : Exit → Act → World → Prop} {E : Prop} (hgd : o.guard = none) (s x : Operand)
    (ho : o.op = .call { callee := .builtin .append, args := #[s, x], argTypes := #[22, 22] })
    (w0 : World) (kv pv : Value) (ks : List (List UInt8)) (ps : List JV) (key : List UInt8) (hs : a.eval s = kv) (hown : ObjOwn w0 W kv pv ks ps) (ad : Addr) (c : Nat) (hx : a.eval x = .slice (some ad) 1 c)
    (hc : W.cell? (ad.add 0) = some (str key))
    (hn : ks.length + 1 ≤ 1048576) (hB : w0.heap.size ≤ W.heap.size)
    (h : ∀ v' w', ObjOwn w0 w' v' pv (ks ++ [key]) ps → Below w0.heap.size W w' → (∀ jv cs, VInS W (besides w0 W kv pv) jv cs → VInS w' (besides w0 w' v' pv) jv cs) → W.grownBy w' kv.ownBlock → K (a.put o.dst v') w') :
    if Region.wanted o (yielded ops a.tmps) = true then Oper.wp Tryz.prog o a W K Q else E := by
  have hw : Region.wanted o (yielded ops a.tmps) = true := by simp [Region.wanted, hgd]
  rw [if_pos hw]
  obtain ⟨i0, hi0, hz0, hz1, hz2⟩ := info_parts info_strg
  obtain ⟨hk1, xs, h1, h2⟩ := hown
  have hap := own_apart h1 hk1 (by decide)
  obtain ⟨v', w', hrun, k1, k2, _, k4⟩ := run_append_own_at (P := Tryz.prog) W w0.heap.size 22 o.type 9 i0 _ 1 16 Tryz.underlying22 hi0 hz0 hz1 hz2 rfl (by decide) kv ks.length _ hk1 ad 1 c [str key] rfl
    (fun j u hu => by
      match j, hu with
      | 0, hu => simp at hu; subst hu; exact hc
      | j + 1, hu => simp at hu) (by simp; rfl) (by unfold maxLen; omega) (by omega) hB
  unfold Oper.wp execOp
  simp only [ho, resolve, invoke, builtin, Sem.run_bind, Sem.run_pure, Result.andThen_ok, List.map_toArray, List.map_cons, List.map_nil, hs, hx, hrun]
  have hkeep : ∀ p : Addr, besides w0 W kv pv p.block → w'.cell? p = W.cell? p := fun p hp => World.cell?_of_block (k2.block p.block hp.1.2 hp.2.2)
  have hmono : ∀ b, besides w0 W kv pv b → besides w0 w' v' pv b := by
    intro b hb
    refine ⟨⟨hb.1.1, Nat.lt_of_lt_of_le hb.1.2 k2.size⟩, hb.2.1, fun e => ?_⟩
    rcases k4 with k4 | k4
    · exact hb.2.2 (e.trans k4)
    · rw [k4] at e; injection e with e; have := hb.1.2; omega
  refine h v' w' ⟨by simpa using k1, xs, World.ownsRow.kept h1 k2 hap, PInS.mono hmono _ _ (PInS.kept hkeep _ _ h2)⟩ ?_ ?_ k2
  · exact (Below.refl w0.heap.size W).grown k2 hB fun k hk => (World.ownsRow.lt hk1 k hk).1
  · exact fun jv cs hv => VInS.mono hmono _ _ (VInS.kept hkeep _ _ hv)
/-- What ObjectOf returns. -/
def ObOfPost (w : World) (e : Ending) (w' : World) : Prop := ∃ v cs, e = .returned (.agg cs.toArray) ∧ VIn w' w'.heap.size v cs ∧ ObjM v ∧ Below w.heap.size w w'
def ObOfR (B : Nat) (w : World) (gk : Nat) (l i : Value) (wr : World) : Prop :=
  ∃ (j : Nat) (ps : List JV) (A : Option Addr) (n c : Nat) (kv pv : Value), i = .int .i64 j ∧ j ≤ 4 ∧ gk = 4 - j ∧ l = .slice A n c ∧ IntsAt wr B A n c ∧ ps.length = j ∧
    Blk wr w.heap.size 25 #[.int .i64 0, .int .i64 0, str [], .slice none 0 0, .slice none 0 0] ∧
    Blk wr (w.heap.size + 1) 25 #[.int .i64 7, .int .i64 0, str [], kv, pv] ∧
    ObjOwn (w2 w) wr kv pv (okL.take j) ps ∧ (∀ p ∈ ps, OkAt 3 p) ∧ counts ps ≤ j * 13 ∧ Below w.heap.size w wr ∧ w.heap.size + 2 ≤ wr.heap.size
set_option maxRecDepth 100000 in
set_option maxHeartbeats 8000000 in
theorem objectOf_any (A0 : Option Addr) (n0 c0 : Nat) (B : Nat) (w : World) (hB : B ≤ w.heap.size) (hI0 : IntsAt w B A0 n0 c0) :
    Calls Tryz.prog 8 #[.slice A0 n0 c0] w (ObOfPost w) := by
  have hg : GenOk 3 := genOk 3 (by omega) (by omega)
  have hg' : ∀ (A : Option Addr) (n c : Nat) (B : Nat) (w : World), B ≤ w.heap.size → IntsAt w B A n c → Calls Tryz.prog 28 #[.slice A n c, .int .i64 3] w (VPost 3 B w) := hg
  clear hg
  have hB0 := Blk.new w 25 #[.int .i64 0, .int .i64 0, str [], .slice none 0 0, .slice none 0 0]
  have Hw1 := Lib.hid (show (w.alloc (.cells #[.int .i64 0, .int .i64 0, str [], .slice none 0 0, .slice none 0 0] 25)).heap.size = w.heap.size + 1 by simp)
  go_enter Tryz.func8, Tryz.ntmps8
  go_wp2_with fail
  go_loopg [0, 4] 4 (ObOfR B w)
  case atStart =>
    have hb2 := Blk.new (w.alloc (.cells #[.int .i64 0, .int .i64 0, str [], .slice none 0 0, .slice none 0 0] 25)) 25 #[.int .i64 7, .int .i64 0, str [], .slice none 0 0, .slice none 0 0]
    rw [Hw1.out] at hb2
    have hbb : Below w.heap.size w ((w.alloc (.cells #[.int .i64 0, .int .i64 0, str [], .slice none 0 0, .slice none 0 0] 25)).alloc (.cells #[.int .i64 7, .int .i64 0, str [], .slice none 0 0, .slice none 0 0] 25)) :=
      ((Below.refl _ _).alloc (Nat.le_refl _) _).alloc (by simp) _
    exact ⟨0, [], A0, n0, c0, _, _, rfl, by omega, by omega, rfl, hI0.below (hbb.mono hB), rfl, hB0.alloc _, hb2, ObjOwn.nil _ _, by simp, by simp [counts], hbb, by simp⟩
  case round =>
    clear Hw1 hB0
    obtain ⟨j, ps, A, n, c, kv, pv, rfl, hj, hgk, rfl, hI, hpl, hbr, hbv, hown, hok, hcn, hbl, hsz⟩ := hrel
    have Hgk := Lib.hid hgk
    have Hpl := Lib.hid hpl
    have Hok := Lib.hid hok
    have Hcn := Lib.hid hcn
    have pk := fun W => picked_any (n : Int) 5 W (by omega) (by omega)
    obtain ⟨m, hm⟩ : ∃ m : Nat, (n : Int) % 5 = (m : Int) := ⟨((n : Int) % 5).toNat, by omega⟩
    have hm4 : m ≤ 4 := by omega
    rw [hm] at pk
    clear hgk hpl hok hcn hm hI0
    by_cases hlt : j < m
    · have hltI : (j : Int) < (m : Int) := by omega
      have hj3 : j ≤ 3 := by omega
      go_wp2_with fail
      refine (pk _).mono ?_
      rintro e y ⟨rfl, rfl⟩
      go_wp2_with fail
      have hwa := (Below.refl wr.heap.size wr).alloc (Nat.le_refl _) (.cells #[.int .i64 0, .int .i64 0, str [], .slice none 0 0, .slice none 0 0] 25)
      have hbp := Blk.new wr 25 #[.int .i64 0, .int .i64 0, str [], .slice none 0 0, .slice none 0 0]
      have Hwz := Lib.hid (show (wr.alloc (.cells #[.int .i64 0, .int .i64 0, str [], .slice none 0 0, .slice none 0 0] 25)).heap.size = wr.heap.size + 1 by simp)
      refine (hg' A n c B _ (by simp; omega) (hI.below (hwa.mono (by omega)))).mono ?_
      rintro e y1 ⟨v2, cs2, A2, n2, c2, rfl, hv2, hok2, hct2, hI2, hbl2⟩
      obtain ⟨k2, m2, t2, Ak2, nk2, ck2, Ap2, np2, cp2, rfl⟩ := hv2.form
      have hz1 : wr.heap.size + 1 ≤ y1.heap.size := by have := hbl2.size; rw [Hwz.out] at this; exact this
      have hbp1 := hbp.below hbl2 (by rw [Hwz.out]; omega)
      have hwy : Below wr.heap.size wr y1 := hwa.trans (hbl2.mono (by rw [Hwz.out]; omega))
      obtain ⟨p0, p1, p2, p3, p4, f0, f1, f2, f3, f4⟩ := box_facts hbp1
      have hwy3 := below_set5 hwy (Nat.le_refl wr.heap.size) (.int .i64 k2) (.int .i64 m2) (str t2) (.slice Ak2 nk2 ck2) (.slice Ap2 np2 cp2)
      have hwy4 := below_set5 (Below.refl w.heap.size y1) (by omega : w.heap.size ≤ wr.heap.size) (.int .i64 k2) (.int .i64 m2) (str t2) (.slice Ak2 nk2 ck2) (.slice Ap2 np2 cp2)
      have hbp3 := set5 hbp1 (.int .i64 k2) (.int .i64 m2) (str t2) (.slice Ak2 nk2 ck2) (.slice Ap2 np2 cp2)
      have hv3 : VInS (((((y1.setCell ⟨wr.heap.size, 0, none⟩ (.int .i64 k2)).setCell ⟨wr.heap.size, 1, none⟩ (.int .i64 m2)).setCell ⟨wr.heap.size, 2, none⟩ (str t2)).setCell ⟨wr.heap.size, 3, none⟩ (.slice Ak2 nk2 ck2)).setCell ⟨wr.heap.size, 4, none⟩ (.slice Ap2 np2 cp2)) (newS (wr.alloc (.cells #[.int .i64 0, .int .i64 0, str [], .slice none 0 0, .slice none 0 0] 25)) y1) v2 [.int .i64 k2, .int .i64 m2, str t2, .slice Ak2 nk2 ck2, .slice Ap2 np2 cp2] :=
        VInS.kept (fun p hp => cell_set5 (by have := hp.1; rw [Hwz.out] at this; omega) _ _ _ _ _) _ _ hv2
      have hszy := size_set5 y1 wr.heap.size (.int .i64 k2) (.int .i64 m2) (str t2) (.slice Ak2 nk2 ck2) (.slice Ap2 np2 cp2)
      obtain ⟨⟨Akv, ckv, rfl⟩, ⟨Apv, cpv, rfl⟩⟩ := hown.forms
      have hown3 := hown.below hwy3
      have hbes := hown.beside (w2 := y1) (by rw [w2_size]; omega)
      have hv4 := VInS.mono (S' := besides (w2 w) (((((y1.setCell ⟨wr.heap.size, 0, none⟩ (.int .i64 k2)).setCell ⟨wr.heap.size, 1, none⟩ (.int .i64 m2)).setCell ⟨wr.heap.size, 2, none⟩ (str t2)).setCell ⟨wr.heap.size, 3, none⟩ (.slice Ak2 nk2 ck2)).setCell ⟨wr.heap.size, 4, none⟩ (.slice Ap2 np2 cp2)) (.slice Akv _ ckv) (.slice Apv ps.length cpv)) (fun b hb => by
        have h1 := hbes b ⟨by have := hb.1; rw [Hwz.out] at this; omega, hb.2⟩
        exact ⟨⟨h1.1.1, by rw [hszy]; exact h1.1.2⟩, h1.2⟩) _ _ hv3
      have hkne : some wr.heap.size ≠ (Value.slice Akv (okL.take j).length ckv).ownBlock := fun e => by
        have := (World.ownsRow.lt hown.1 wr.heap.size e.symm).2; omega
      have hbv3 := hbv.below hwy3 (by omega)
      have hbr3 := hbr.below hwy3 (by omega)
      have HI2 := Lib.hid (hI2.below (hwy4.mono hB))
      have Hbl3 := Lib.hid (hbl.trans (hwy3.mono (by omega)))
      have Hok2 := Lib.hid hok2
      have Hct2 := Lib.hid (show count v2 ≤ 13 from hct2)
      have hpl4 : ps.length + 1 ≤ 1048576 := by have := Hpl.out; omega
      go_wp2_with fail
      clear p0 p1 p2 p3 p4 f0 f1 f2 f3 f4 hwa hbp hbp1 hv2 hv3 hbes hbv hbr hown hwy hbl2 hI hI2 hok2 hct2 hwy4
      have hsz3 : wr.heap.size + 1 ≤ (((((y1.setCell ⟨wr.heap.size, 0, none⟩ (.int .i64 k2)).setCell ⟨wr.heap.size, 1, none⟩ (.int .i64 m2)).setCell ⟨wr.heap.size, 2, none⟩ (str t2)).setCell ⟨wr.heap.size, 3, none⟩ (.slice Ak2 nk2 ck2)).setCell ⟨wr.heap.size, 4, none⟩ (.slice Ap2 np2 cp2)).heap.size := by rw [hszy]; exact hz1
      clear hszy hwy3 Hwz hz1
      generalize (((((y1.setCell ⟨wr.heap.size, 0, none⟩ (.int .i64 k2)).setCell ⟨wr.heap.size, 1, none⟩ (.int .i64 m2)).setCell ⟨wr.heap.size, 2, none⟩ (str t2)).setCell ⟨wr.heap.size, 3, none⟩ (.slice Ak2 nk2 ck2)).setCell ⟨wr.heap.size, 4, none⟩ (.slice Ap2 np2 cp2)) = y5 at *
      have hz52 : w.heap.size + 2 ≤ y5.heap.size := by omega
      have hz53 : w.heap.size + 1 < y5.heap.size := by omega
      have hz54 : w.heap.size + 1 < y5.heap.size + 1 := by omega
      generalize wr.heap.size = gp at *
      have hgpz : gp < y5.heap.size := by omega
      rcases (by omega : j = 0 ∨ j = 1 ∨ j = 2 ∨ j = 3) with rfl | rfl | rfl | rfl
      · have hbvL : Blk y5 (w.heap.size + 1) 25 #[.int .i64 7, .int .i64 0, str [], .slice Akv 0 ckv, .slice Apv ps.length cpv] := hbv3
        have hownL : ObjOwn (w2 w) y5 (.slice Akv 0 ckv) (.slice Apv ps.length cpv) (okL.take 0) ps := hown3
        have hknL : some gp ≠ (Value.slice Akv 0 ckv).ownBlock := hkne
        have hvL : VInS y5 (besides (w2 w) y5 (.slice Akv 0 ckv) (.slice Apv ps.length cpv)) v2 [.int .i64 k2, .int .i64 m2, str t2, .slice Ak2 nk2 ck2, .slice Ap2 np2 cp2] := hv4
        clear hbv3 hown3 hkne hv4
        obtain ⟨q0, q1, q2, q3, q4, r0, r1, r2, r3, r4⟩ := box_facts hbvL
        have hbW : Below y5.heap.size y5 (((y5.alloc (.cells #[str [97], str [107, 101, 121, 115], str [115], str [117, 115, 101, 114, 95, 105, 100]] 9)).alloc (.cells #[str [97]] 9)).drew) := (((Below.refl _ _).alloc (Nat.le_refl _) _).alloc (by simp) _).drew
        have HownW := Lib.hid (hownL.below hbW)
        have HBW := Lib.hid (show (w2 w).heap.size ≤ (((y5.alloc (.cells #[str [97], str [107, 101, 121, 115], str [115], str [117, 115, 101, 114, 95, 105, 100]] 9)).alloc (.cells #[str [97]] 9)).drew).heap.size by rw [w2_size]; have := hbW.size; omega)
        have HcW := Lib.hid (show (((y5.alloc (.cells #[str [97], str [107, 101, 121, 115], str [115], str [117, 115, 101, 114, 95, 105, 100]] 9)).alloc (.cells #[str [97]] 9)).drew).cell? ((⟨y5.heap.size + 1, 0, none⟩ : Addr).add 0) = some (str [97]) by
          have h1 : ((⟨y5.heap.size + 1, 0, none⟩ : Addr).add 0) = ⟨(y5.alloc (.cells #[str [97], str [107, 101, 121, 115], str [115], str [117, 115, 101, 114, 95, 105, 100]] 9)).heap.size, 0, none⟩ := by rw [plus_addr]; simp
          rw [h1]
          exact (Blk.new (y5.alloc (.cells #[str [97], str [107, 101, 121, 115], str [115], str [117, 115, 101, 114, 95, 105, 100]] 9)) 9 _).cell 0)
        have HvW := Lib.hid (show VInS (((y5.alloc (.cells #[str [97], str [107, 101, 121, 115], str [115], str [117, 115, 101, 114, 95, 105, 100]] 9)).alloc (.cells #[str [97]] 9)).drew) (besides (w2 w) (((y5.alloc (.cells #[str [97], str [107, 101, 121, 115], str [115], str [117, 115, 101, 114, 95, 105, 100]] 9)).alloc (.cells #[str [97]] 9)).drew) (.slice Akv 0 ckv) (.slice Apv ps.length cpv)) v2 [.int .i64 k2, .int .i64 m2, str t2, .slice Ak2 nk2 ck2, .slice Ap2 np2 cp2] from
          VInS.mono (fun b hb => ⟨⟨hb.1.1, Nat.lt_of_lt_of_le hb.1.2 hbW.size⟩, hb.2⟩) _ _ (VInS.kept (fun p hp => hbW.cell hp.1.2) _ _ hvL))
        have Hb2 := Lib.hid (hbvL.below hbW hbvL.lt)
        have Hb1 := Lib.hid (hbr3.below hbW hbr3.lt)
        have Hbp := Lib.hid (hbp3.below hbW hbp3.lt)
        have HbW := Lib.hid (hbW.mono (by omega : w.heap.size ≤ y5.heap.size))
        clear hbW hbvL hownL hvL hbr3 hbp3
        go_region_law (refine step_putK2 rfl _ _ rfl (w2 w) _ _ _ ps [97] (by rfl) HownW.out ⟨y5.heap.size + 1, 0, none⟩ 1 (by rfl) HcW.out (by simp [okL]) HBW.out ?_; intro v6 y6 hown6 hbl6 hvk6 hgr6; rw [w2_size] at hbl6; obtain ⟨⟨Ak6, ck6, hv6q⟩, _⟩ := hown6.forms; have hv6e : v6 = .slice Ak6 1 ck6 := hv6q; clear hv6q; rw [hv6e] at hown6 hvk6; rw [hv6e]; clear hv6e; have hbv6 := Hb2.out.below hbl6 (by omega); have hbr6 := Hb1.out.below hbl6 (by omega); have hbp6 := Hbp.out.grown hgr6 hknL; have hv6 := hvk6 _ _ HvW.out; clear hvk6 hgr6; obtain ⟨u0', u1', u2', u3', u4', z0', z1', z2', z3', z4'⟩ := box_facts hbv6)
        all_goals
          have hown7 := hown6.only (g := w.heap.size + 1) (only_setCell (World.grownBy.refl _ _) (p := ⟨w.heap.size + 1, 3, none⟩) (.inl rfl) (.slice Ak6 1 ck6)) (by rw [w2_size]; omega)
          have hbv7 := hbv6.set_ 3 (.slice Ak6 1 ck6)
          have hbr7 := hbr6.far (p := ⟨w.heap.size + 1, 3, none⟩) (by simp) (.slice Ak6 1 ck6)
          have hbp7 := hbp6.far (p := ⟨w.heap.size + 1, 3, none⟩) (by show gp ≠ w.heap.size + 1; omega) (.slice Ak6 1 ck6)
          have hb7 : Below w.heap.size y5 (y6.setCell ⟨w.heap.size + 1, 3, none⟩ (.slice Ak6 1 ck6)) := (HbW.out.trans (hbl6.mono (by omega))).setCell (p := ⟨w.heap.size + 1, 3, none⟩) (by simp) _
          have hv7 : VInS (y6.setCell ⟨w.heap.size + 1, 3, none⟩ (.slice Ak6 1 ck6)) (besides (w2 w) (y6.setCell ⟨w.heap.size + 1, 3, none⟩ (.slice Ak6 1 ck6)) (.slice Ak6 1 ck6) (.slice Apv ps.length cpv)) v2 [.int .i64 k2, .int .i64 m2, str t2, .slice Ak2 nk2 ck2, .slice Ap2 np2 cp2] :=
            VInS.mono (fun b hb => ⟨⟨hb.1.1, by have := hb.1.2; simpa [World.setCell] using this⟩, hb.2⟩) _ _ (VInS.kept (fun p hp => World.cell?_of_block (Below.heap_setCell _ _ _ _ (by show p.block ≠ w.heap.size + 1; have := hp.1.1; rw [w2_size] at this; omega))) _ _ hv6)
          clear u0' u1' u2' u3' u4' z0' z1' z2' z3' z4' hown6 hbv6 hbr6 hbp6 hv6 hbl6 q0 q1 q2 q3 q4 r0 r1 r2 r3 r4 HownW HBW HcW HvW Hb2 Hb1 Hbp HbW
          have hbv8 : Blk (y6.setCell ⟨w.heap.size + 1, 3, none⟩ (.slice Ak6 1 ck6)) (w.heap.size + 1) 25 #[.int .i64 7, .int .i64 0, str [], .slice Ak6 1 ck6, .slice Apv ps.length cpv] := hbv7
          clear hbv7
          have hz7 : gp < (y6.setCell ⟨w.heap.size + 1, 3, none⟩ (.slice Ak6 1 ck6)).heap.size := hbp7.lt
          have hz8 : w.heap.size + 1 < (y6.setCell ⟨w.heap.size + 1, 3, none⟩ (.slice Ak6 1 ck6)).heap.size := hbv8.lt
          generalize y6.setCell ⟨w.heap.size + 1, 3, none⟩ (.slice Ak6 1 ck6) = y7 at *
          obtain ⟨p0, p1, p2, p3, p4, f0, f1, f2, f3, f4⟩ := box_facts hbp7
          obtain ⟨q0, q1, q2, q3, q4, r0, r1, r2, r3, r4⟩ := box_facts hbv8
          have HB7 := Lib.hid (show (w2 w).heap.size ≤ y7.heap.size by rw [w2_size]; omega)
          have Hown7 := Lib.hid hown7
          have Hv7 := Lib.hid hv7
          have Hbv8 := Lib.hid hbv8
          have Hbr7 := Lib.hid hbr7
          clear hown7 hv7
          go_wp2_with (at_builtin
                       go_loud (refine wpList_putO rfl _ _ rfl (w2 w) _ _ _ ps v2 _ (by rfl) Hown7.out Hv7.out _ rfl _ (by rfl) (by simp) hpl4 HB7.out ?_)
                       intro v9 y9 hown9 hbl9
                       rw [w2_size] at hbl9
                       have hbv9 := Hbv8.out.below hbl9 (by omega)
                       have hbr9 := Hbr7.out.below hbl9 (by omega)
                       obtain ⟨_, ⟨Ap9, cp9, hv9e⟩⟩ := hown9.forms
                       rw [hv9e] at hown9
                       rw [hv9e]
                       clear hv9e
                       obtain ⟨s0, s1, s2, s3, s4, t0, t1, t2', t3, t4⟩ := box_facts hbv9)
          have hpl1 : (ps ++ [v2]).length = ps.length + 1 := by simp
          rw [hpl1] at hown9
          go_roundg (4 - (0 + 1))
          case measure => have := Hgk.out; omega
          case rel =>
            have hb9 : Below w.heap.size y5 (y9.setCell ⟨w.heap.size + 1, 4, none⟩ (.slice Ap9 (ps.length + 1) cp9)) := (hb7.trans (hbl9.mono (by omega))).setCell (p := ⟨w.heap.size + 1, 4, none⟩) (by simp) _
            have hszF := hb9.size
            refine ⟨0 + 1, ps ++ [v2], A2, n2, c2, .slice Ak6 1 ck6, .slice Ap9 (ps.length + 1) cp9, by go_num, by omega, rfl, rfl, HI2.out.below (hb9.mono hB), by rw [hpl1, Hpl.out], hbr9.far (p := ⟨w.heap.size + 1, 4, none⟩) (by simp) _, hbv9.set_ 4 _, ?_, ?_, ?_, Hbl3.out.trans hb9, by omega⟩
            · exact hown9.only (g := w.heap.size + 1) (only_setCell (World.grownBy.refl _ _) (.inl rfl) _) (by rw [w2_size]; omega)
            · intro p hp
              rcases List.mem_append.1 hp with hp | hp
              · exact Hok.out p hp
              · rw [List.mem_singleton] at hp; subst hp; exact Hok2.out
            · rw [counts_snoc]
              have h1 := Hcn.out
              have h2 := Hct2.out
              omega
      · have hbvL : Blk y5 (w.heap.size + 1) 25 #[.int .i64 7, .int .i64 0, str [], .slice Akv 1 ckv, .slice Apv ps.length cpv] := hbv3
        have hownL : ObjOwn (w2 w) y5 (.slice Akv 1 ckv) (.slice Apv ps.length cpv) (okL.take 1) ps := hown3
        have hknL : some gp ≠ (Value.slice Akv 1 ckv).ownBlock := hkne
        have hvL : VInS y5 (besides (w2 w) y5 (.slice Akv 1 ckv) (.slice Apv ps.length cpv)) v2 [.int .i64 k2, .int .i64 m2, str t2, .slice Ak2 nk2 ck2, .slice Ap2 np2 cp2] := hv4
        clear hbv3 hown3 hkne hv4
        obtain ⟨q0, q1, q2, q3, q4, r0, r1, r2, r3, r4⟩ := box_facts hbvL
        have hbW : Below y5.heap.size y5 (((y5.alloc (.cells #[str [97], str [107, 101, 121, 115], str [115], str [117, 115, 101, 114, 95, 105, 100]] 9)).alloc (.cells #[str [107, 101, 121, 115]] 9)).drew) := (((Below.refl _ _).alloc (Nat.le_refl _) _).alloc (by simp) _).drew
        have HownW := Lib.hid (hownL.below hbW)
        have HBW := Lib.hid (show (w2 w).heap.size ≤ (((y5.alloc (.cells #[str [97], str [107, 101, 121, 115], str [115], str [117, 115, 101, 114, 95, 105, 100]] 9)).alloc (.cells #[str [107, 101, 121, 115]] 9)).drew).heap.size by rw [w2_size]; have := hbW.size; omega)
        have HcW := Lib.hid (show (((y5.alloc (.cells #[str [97], str [107, 101, 121, 115], str [115], str [117, 115, 101, 114, 95, 105, 100]] 9)).alloc (.cells #[str [107, 101, 121, 115]] 9)).drew).cell? ((⟨y5.heap.size + 1, 0, none⟩ : Addr).add 0) = some (str [107, 101, 121, 115]) by
          have h1 : ((⟨y5.heap.size + 1, 0, none⟩ : Addr).add 0) = ⟨(y5.alloc (.cells #[str [97], str [107, 101, 121, 115], str [115], str [117, 115, 101, 114, 95, 105, 100]] 9)).heap.size, 0, none⟩ := by rw [plus_addr]; simp
          rw [h1]
          exact (Blk.new (y5.alloc (.cells #[str [97], str [107, 101, 121, 115], str [115], str [117, 115, 101, 114, 95, 105, 100]] 9)) 9 _).cell 0)
        have HvW := Lib.hid (show VInS (((y5.alloc (.cells #[str [97], str [107, 101, 121, 115], str [115], str [117, 115, 101, 114, 95, 105, 100]] 9)).alloc (.cells #[str [107, 101, 121, 115]] 9)).drew) (besides (w2 w) (((y5.alloc (.cells #[str [97], str [107, 101, 121, 115], str [115], str [117, 115, 101, 114, 95, 105, 100]] 9)).alloc (.cells #[str [107, 101, 121, 115]] 9)).drew) (.slice Akv 1 ckv) (.slice Apv ps.length cpv)) v2 [.int .i64 k2, .int .i64 m2, str t2, .slice Ak2 nk2 ck2, .slice Ap2 np2 cp2] from
          VInS.mono (fun b hb => ⟨⟨hb.1.1, Nat.lt_of_lt_of_le hb.1.2 hbW.size⟩, hb.2⟩) _ _ (VInS.kept (fun p hp => hbW.cell hp.1.2) _ _ hvL))
        have Hb2 := Lib.hid (hbvL.below hbW hbvL.lt)
        have Hb1 := Lib.hid (hbr3.below hbW hbr3.lt)
        have Hbp := Lib.hid (hbp3.below hbW hbp3.lt)
        have HbW := Lib.hid (hbW.mono (by omega : w.heap.size ≤ y5.heap.size))
        clear hbW hbvL hownL hvL hbr3 hbp3
        go_region_law (refine step_putK2 rfl _ _ rfl (w2 w) _ _ _ ps [107, 101, 121, 115] (by rfl) HownW.out ⟨y5.heap.size + 1, 0, none⟩ 1 (by rfl) HcW.out (by simp [okL]) HBW.out ?_; intro v6 y6 hown6 hbl6 hvk6 hgr6; rw [w2_size] at hbl6; obtain ⟨⟨Ak6, ck6, hv6q⟩, _⟩ := hown6.forms; have hv6e : v6 = .slice Ak6 2 ck6 := hv6q; clear hv6q; rw [hv6e] at hown6 hvk6; rw [hv6e]; clear hv6e; have hbv6 := Hb2.out.below hbl6 (by omega); have hbr6 := Hb1.out.below hbl6 (by omega); have hbp6 := Hbp.out.grown hgr6 hknL; have hv6 := hvk6 _ _ HvW.out; clear hvk6 hgr6; obtain ⟨u0', u1', u2', u3', u4', z0', z1', z2', z3', z4'⟩ := box_facts hbv6)
        all_goals
          have hown7 := hown6.only (g := w.heap.size + 1) (only_setCell (World.grownBy.refl _ _) (p := ⟨w.heap.size + 1, 3, none⟩) (.inl rfl) (.slice Ak6 2 ck6)) (by rw [w2_size]; omega)
          have hbv7 := hbv6.set_ 3 (.slice Ak6 2 ck6)
          have hbr7 := hbr6.far (p := ⟨w.heap.size + 1, 3, none⟩) (by simp) (.slice Ak6 2 ck6)
          have hbp7 := hbp6.far (p := ⟨w.heap.size + 1, 3, none⟩) (by show gp ≠ w.heap.size + 1; omega) (.slice Ak6 2 ck6)
          have hb7 : Below w.heap.size y5 (y6.setCell ⟨w.heap.size + 1, 3, none⟩ (.slice Ak6 2 ck6)) := (HbW.out.trans (hbl6.mono (by omega))).setCell (p := ⟨w.heap.size + 1, 3, none⟩) (by simp) _
          have hv7 : VInS (y6.setCell ⟨w.heap.size + 1, 3, none⟩ (.slice Ak6 2 ck6)) (besides (w2 w) (y6.setCell ⟨w.heap.size + 1, 3, none⟩ (.slice Ak6 2 ck6)) (.slice Ak6 2 ck6) (.slice Apv ps.length cpv)) v2 [.int .i64 k2, .int .i64 m2, str t2, .slice Ak2 nk2 ck2, .slice Ap2 np2 cp2] :=
            VInS.mono (fun b hb => ⟨⟨hb.1.1, by have := hb.1.2; simpa [World.setCell] using this⟩, hb.2⟩) _ _ (VInS.kept (fun p hp => World.cell?_of_block (Below.heap_setCell _ _ _ _ (by show p.block ≠ w.heap.size + 1; have := hp.1.1; rw [w2_size] at this; omega))) _ _ hv6)
          clear u0' u1' u2' u3' u4' z0' z1' z2' z3' z4' hown6 hbv6 hbr6 hbp6 hv6 hbl6 q0 q1 q2 q3 q4 r0 r1 r2 r3 r4 HownW HBW HcW HvW Hb2 Hb1 Hbp HbW
          have hbv8 : Blk (y6.setCell ⟨w.heap.size + 1, 3, none⟩ (.slice Ak6 2 ck6)) (w.heap.size + 1) 25 #[.int .i64 7, .int .i64 0, str [], .slice Ak6 2 ck6, .slice Apv ps.length cpv] := hbv7
          clear hbv7
          have hz7 : gp < (y6.setCell ⟨w.heap.size + 1, 3, none⟩ (.slice Ak6 2 ck6)).heap.size := hbp7.lt
          have hz8 : w.heap.size + 1 < (y6.setCell ⟨w.heap.size + 1, 3, none⟩ (.slice Ak6 2 ck6)).heap.size := hbv8.lt
          generalize y6.setCell ⟨w.heap.size + 1, 3, none⟩ (.slice Ak6 2 ck6) = y7 at *
          obtain ⟨p0, p1, p2, p3, p4, f0, f1, f2, f3, f4⟩ := box_facts hbp7
          obtain ⟨q0, q1, q2, q3, q4, r0, r1, r2, r3, r4⟩ := box_facts hbv8
          have HB7 := Lib.hid (show (w2 w).heap.size ≤ y7.heap.size by rw [w2_size]; omega)
          have Hown7 := Lib.hid hown7
          have Hv7 := Lib.hid hv7
          have Hbv8 := Lib.hid hbv8
          have Hbr7 := Lib.hid hbr7
          clear hown7 hv7
          go_wp2_with (at_builtin
                       go_loud (refine wpList_putO rfl _ _ rfl (w2 w) _ _ _ ps v2 _ (by rfl) Hown7.out Hv7.out _ rfl _ (by rfl) (by simp) hpl4 HB7.out ?_)
                       intro v9 y9 hown9 hbl9
                       rw [w2_size] at hbl9
                       have hbv9 := Hbv8.out.below hbl9 (by omega)
                       have hbr9 := Hbr7.out.below hbl9 (by omega)
                       obtain ⟨_, ⟨Ap9, cp9, hv9e⟩⟩ := hown9.forms
                       rw [hv9e] at hown9
                       rw [hv9e]
                       clear hv9e
                       obtain ⟨s0, s1, s2, s3, s4, t0, t1, t2', t3, t4⟩ := box_facts hbv9)
          have hpl1 : (ps ++ [v2]).length = ps.length + 1 := by simp
          rw [hpl1] at hown9
          go_roundg (4 - (1 + 1))
          case measure => have := Hgk.out; omega
          case rel =>
            have hb9 : Below w.heap.size y5 (y9.setCell ⟨w.heap.size + 1, 4, none⟩ (.slice Ap9 (ps.length + 1) cp9)) := (hb7.trans (hbl9.mono (by omega))).setCell (p := ⟨w.heap.size + 1, 4, none⟩) (by simp) _
            have hszF := hb9.size
            refine ⟨1 + 1, ps ++ [v2], A2, n2, c2, .slice Ak6 2 ck6, .slice Ap9 (ps.length + 1) cp9, by go_num, by omega, rfl, rfl, HI2.out.below (hb9.mono hB), by rw [hpl1, Hpl.out], hbr9.far (p := ⟨w.heap.size + 1, 4, none⟩) (by simp) _, hbv9.set_ 4 _, ?_, ?_, ?_, Hbl3.out.trans hb9, by omega⟩
            · exact hown9.only (g := w.heap.size + 1) (only_setCell (World.grownBy.refl _ _) (.inl rfl) _) (by rw [w2_size]; omega)
            · intro p hp
              rcases List.mem_append.1 hp with hp | hp
              · exact Hok.out p hp
              · rw [List.mem_singleton] at hp; subst hp; exact Hok2.out
            · rw [counts_snoc]
              have h1 := Hcn.out
              have h2 := Hct2.out
              omega
      · have hbvL : Blk y5 (w.heap.size + 1) 25 #[.int .i64 7, .int .i64 0, str [], .slice Akv 2 ckv, .slice Apv ps.length cpv] := hbv3
        have hownL : ObjOwn (w2 w) y5 (.slice Akv 2 ckv) (.slice Apv ps.length cpv) (okL.take 2) ps := hown3
        have hknL : some gp ≠ (Value.slice Akv 2 ckv).ownBlock := hkne
        have hvL : VInS y5 (besides (w2 w) y5 (.slice Akv 2 ckv) (.slice Apv ps.length cpv)) v2 [.int .i64 k2, .int .i64 m2, str t2, .slice Ak2 nk2 ck2, .slice Ap2 np2 cp2] := hv4
        clear hbv3 hown3 hkne hv4
        obtain ⟨q0, q1, q2, q3, q4, r0, r1, r2, r3, r4⟩ := box_facts hbvL
        have hbW : Below y5.heap.size y5 (((y5.alloc (.cells #[str [97], str [107, 101, 121, 115], str [115], str [117, 115, 101, 114, 95, 105, 100]] 9)).alloc (.cells #[str [115]] 9)).drew) := (((Below.refl _ _).alloc (Nat.le_refl _) _).alloc (by simp) _).drew
        have HownW := Lib.hid (hownL.below hbW)
        have HBW := Lib.hid (show (w2 w).heap.size ≤ (((y5.alloc (.cells #[str [97], str [107, 101, 121, 115], str [115], str [117, 115, 101, 114, 95, 105, 100]] 9)).alloc (.cells #[str [115]] 9)).drew).heap.size by rw [w2_size]; have := hbW.size; omega)
        have HcW := Lib.hid (show (((y5.alloc (.cells #[str [97], str [107, 101, 121, 115], str [115], str [117, 115, 101, 114, 95, 105, 100]] 9)).alloc (.cells #[str [115]] 9)).drew).cell? ((⟨y5.heap.size + 1, 0, none⟩ : Addr).add 0) = some (str [115]) by
          have h1 : ((⟨y5.heap.size + 1, 0, none⟩ : Addr).add 0) = ⟨(y5.alloc (.cells #[str [97], str [107, 101, 121, 115], str [115], str [117, 115, 101, 114, 95, 105, 100]] 9)).heap.size, 0, none⟩ := by rw [plus_addr]; simp
          rw [h1]
          exact (Blk.new (y5.alloc (.cells #[str [97], str [107, 101, 121, 115], str [115], str [117, 115, 101, 114, 95, 105, 100]] 9)) 9 _).cell 0)
        have HvW := Lib.hid (show VInS (((y5.alloc (.cells #[str [97], str [107, 101, 121, 115], str [115], str [117, 115, 101, 114, 95, 105, 100]] 9)).alloc (.cells #[str [115]] 9)).drew) (besides (w2 w) (((y5.alloc (.cells #[str [97], str [107, 101, 121, 115], str [115], str [117, 115, 101, 114, 95, 105, 100]] 9)).alloc (.cells #[str [115]] 9)).drew) (.slice Akv 2 ckv) (.slice Apv ps.length cpv)) v2 [.int .i64 k2, .int .i64 m2, str t2, .slice Ak2 nk2 ck2, .slice Ap2 np2 cp2] from
          VInS.mono (fun b hb => ⟨⟨hb.1.1, Nat.lt_of_lt_of_le hb.1.2 hbW.size⟩, hb.2⟩) _ _ (VInS.kept (fun p hp => hbW.cell hp.1.2) _ _ hvL))
        have Hb2 := Lib.hid (hbvL.below hbW hbvL.lt)
        have Hb1 := Lib.hid (hbr3.below hbW hbr3.lt)
        have Hbp := Lib.hid (hbp3.below hbW hbp3.lt)
        have HbW := Lib.hid (hbW.mono (by omega : w.heap.size ≤ y5.heap.size))
        clear hbW hbvL hownL hvL hbr3 hbp3
        go_region_law (refine step_putK2 rfl _ _ rfl (w2 w) _ _ _ ps [115] (by rfl) HownW.out ⟨y5.heap.size + 1, 0, none⟩ 1 (by rfl) HcW.out (by simp [okL]) HBW.out ?_; intro v6 y6 hown6 hbl6 hvk6 hgr6; rw [w2_size] at hbl6; obtain ⟨⟨Ak6, ck6, hv6q⟩, _⟩ := hown6.forms; have hv6e : v6 = .slice Ak6 3 ck6 := hv6q; clear hv6q; rw [hv6e] at hown6 hvk6; rw [hv6e]; clear hv6e; have hbv6 := Hb2.out.below hbl6 (by omega); have hbr6 := Hb1.out.below hbl6 (by omega); have hbp6 := Hbp.out.grown hgr6 hknL; have hv6 := hvk6 _ _ HvW.out; clear hvk6 hgr6; obtain ⟨u0', u1', u2', u3', u4', z0', z1', z2', z3', z4'⟩ := box_facts hbv6)
        all_goals
          have hown7 := hown6.only (g := w.heap.size + 1) (only_setCell (World.grownBy.refl _ _) (p := ⟨w.heap.size + 1, 3, none⟩) (.inl rfl) (.slice Ak6 3 ck6)) (by rw [w2_size]; omega)
          have hbv7 := hbv6.set_ 3 (.slice Ak6 3 ck6)
          have hbr7 := hbr6.far (p := ⟨w.heap.size + 1, 3, none⟩) (by simp) (.slice Ak6 3 ck6)
          have hbp7 := hbp6.far (p := ⟨w.heap.size + 1, 3, none⟩) (by show gp ≠ w.heap.size + 1; omega) (.slice Ak6 3 ck6)
          have hb7 : Below w.heap.size y5 (y6.setCell ⟨w.heap.size + 1, 3, none⟩ (.slice Ak6 3 ck6)) := (HbW.out.trans (hbl6.mono (by omega))).setCell (p := ⟨w.heap.size + 1, 3, none⟩) (by simp) _
          have hv7 : VInS (y6.setCell ⟨w.heap.size + 1, 3, none⟩ (.slice Ak6 3 ck6)) (besides (w2 w) (y6.setCell ⟨w.heap.size + 1, 3, none⟩ (.slice Ak6 3 ck6)) (.slice Ak6 3 ck6) (.slice Apv ps.length cpv)) v2 [.int .i64 k2, .int .i64 m2, str t2, .slice Ak2 nk2 ck2, .slice Ap2 np2 cp2] :=
            VInS.mono (fun b hb => ⟨⟨hb.1.1, by have := hb.1.2; simpa [World.setCell] using this⟩, hb.2⟩) _ _ (VInS.kept (fun p hp => World.cell?_of_block (Below.heap_setCell _ _ _ _ (by show p.block ≠ w.heap.size + 1; have := hp.1.1; rw [w2_size] at this; omega))) _ _ hv6)
          clear u0' u1' u2' u3' u4' z0' z1' z2' z3' z4' hown6 hbv6 hbr6 hbp6 hv6 hbl6 q0 q1 q2 q3 q4 r0 r1 r2 r3 r4 HownW HBW HcW HvW Hb2 Hb1 Hbp HbW
          have hbv8 : Blk (y6.setCell ⟨w.heap.size + 1, 3, none⟩ (.slice Ak6 3 ck6)) (w.heap.size + 1) 25 #[.int .i64 7, .int .i64 0, str [], .slice Ak6 3 ck6, .slice Apv ps.length cpv] := hbv7
          clear hbv7
          have hz7 : gp < (y6.setCell ⟨w.heap.size + 1, 3, none⟩ (.slice Ak6 3 ck6)).heap.size := hbp7.lt
          have hz8 : w.heap.size + 1 < (y6.setCell ⟨w.heap.size + 1, 3, none⟩ (.slice Ak6 3 ck6)).heap.size := hbv8.lt
          generalize y6.setCell ⟨w.heap.size + 1, 3, none⟩ (.slice Ak6 3 ck6) = y7 at *
          obtain ⟨p0, p1, p2, p3, p4, f0, f1, f2, f3, f4⟩ := box_facts hbp7
          obtain ⟨q0, q1, q2, q3, q4, r0, r1, r2, r3, r4⟩ := box_facts hbv8
          have HB7 := Lib.hid (show (w2 w).heap.size ≤ y7.heap.size by rw [w2_size]; omega)
          have Hown7 := Lib.hid hown7
          have Hv7 := Lib.hid hv7
          have Hbv8 := Lib.hid hbv8
          have Hbr7 := Lib.hid hbr7
          clear hown7 hv7
          go_wp2_with (at_builtin
                       go_loud (refine wpList_putO rfl _ _ rfl (w2 w) _ _ _ ps v2 _ (by rfl) Hown7.out Hv7.out _ rfl _ (by rfl) (by simp) hpl4 HB7.out ?_)
                       intro v9 y9 hown9 hbl9
                       rw [w2_size] at hbl9
                       have hbv9 := Hbv8.out.below hbl9 (by omega)
                       have hbr9 := Hbr7.out.below hbl9 (by omega)
                       obtain ⟨_, ⟨Ap9, cp9, hv9e⟩⟩ := hown9.forms
                       rw [hv9e] at hown9
                       rw [hv9e]
                       clear hv9e
                       obtain ⟨s0, s1, s2, s3, s4, t0, t1, t2', t3, t4⟩ := box_facts hbv9)
          have hpl1 : (ps ++ [v2]).length = ps.length + 1 := by simp
          rw [hpl1] at hown9
          go_roundg (4 - (2 + 1))
          case measure => have := Hgk.out; omega
          case rel =>
            have hb9 : Below w.heap.size y5 (y9.setCell ⟨w.heap.size + 1, 4, none⟩ (.slice Ap9 (ps.length + 1) cp9)) := (hb7.trans (hbl9.mono (by omega))).setCell (p := ⟨w.heap.size + 1, 4, none⟩) (by simp) _
            have hszF := hb9.size
            refine ⟨2 + 1, ps ++ [v2], A2, n2, c2, .slice Ak6 3 ck6, .slice Ap9 (ps.length + 1) cp9, by go_num, by omega, rfl, rfl, HI2.out.below (hb9.mono hB), by rw [hpl1, Hpl.out], hbr9.far (p := ⟨w.heap.size + 1, 4, none⟩) (by simp) _, hbv9.set_ 4 _, ?_, ?_, ?_, Hbl3.out.trans hb9, by omega⟩
            · exact hown9.only (g := w.heap.size + 1) (only_setCell (World.grownBy.refl _ _) (.inl rfl) _) (by rw [w2_size]; omega)
            · intro p hp
              rcases List.mem_append.1 hp with hp | hp
              · exact Hok.out p hp
              · rw [List.mem_singleton] at hp; subst hp; exact Hok2.out
            · rw [counts_snoc]
              have h1 := Hcn.out
              have h2 := Hct2.out
              omega
      · have hbvL : Blk y5 (w.heap.size + 1) 25 #[.int .i64 7, .int .i64 0, str [], .slice Akv 3 ckv, .slice Apv ps.length cpv] := hbv3
        have hownL : ObjOwn (w2 w) y5 (.slice Akv 3 ckv) (.slice Apv ps.length cpv) (okL.take 3) ps := hown3
        have hknL : some gp ≠ (Value.slice Akv 3 ckv).ownBlock := hkne
        have hvL : VInS y5 (besides (w2 w) y5 (.slice Akv 3 ckv) (.slice Apv ps.length cpv)) v2 [.int .i64 k2, .int .i64 m2, str t2, .slice Ak2 nk2 ck2, .slice Ap2 np2 cp2] := hv4
        clear hbv3 hown3 hkne hv4
        obtain ⟨q0, q1, q2, q3, q4, r0, r1, r2, r3, r4⟩ := box_facts hbvL
        have hbW : Below y5.heap.size y5 (((y5.alloc (.cells #[str [97], str [107, 101, 121, 115], str [115], str [117, 115, 101, 114, 95, 105, 100]] 9)).alloc (.cells #[str [117, 115, 101, 114, 95, 105, 100]] 9)).drew) := (((Below.refl _ _).alloc (Nat.le_refl _) _).alloc (by simp) _).drew
        have HownW := Lib.hid (hownL.below hbW)
        have HBW := Lib.hid (show (w2 w).heap.size ≤ (((y5.alloc (.cells #[str [97], str [107, 101, 121, 115], str [115], str [117, 115, 101, 114, 95, 105, 100]] 9)).alloc (.cells #[str [117, 115, 101, 114, 95, 105, 100]] 9)).drew).heap.size by rw [w2_size]; have := hbW.size; omega)
        have HcW := Lib.hid (show (((y5.alloc (.cells #[str [97], str [107, 101, 121, 115], str [115], str [117, 115, 101, 114, 95, 105, 100]] 9)).alloc (.cells #[str [117, 115, 101, 114, 95, 105, 100]] 9)).drew).cell? ((⟨y5.heap.size + 1, 0, none⟩ : Addr).add 0) = some (str [117, 115, 101, 114, 95, 105, 100]) by
          have h1 : ((⟨y5.heap.size + 1, 0, none⟩ : Addr).add 0) = ⟨(y5.alloc (.cells #[str [97], str [107, 101, 121, 115], str [115], str [117, 115, 101, 114, 95, 105, 100]] 9)).heap.size, 0, none⟩ := by rw [plus_addr]; simp
          rw [h1]
          exact (Blk.new (y5.alloc (.cells #[str [97], str [107, 101, 121, 115], str [115], str [117, 115, 101, 114, 95, 105, 100]] 9)) 9 _).cell 0)
        have HvW := Lib.hid (show VInS (((y5.alloc (.cells #[str [97], str [107, 101, 121, 115], str [115], str [117, 115, 101, 114, 95, 105, 100]] 9)).alloc (.cells #[str [117, 115, 101, 114, 95, 105, 100]] 9)).drew) (besides (w2 w) (((y5.alloc (.cells #[str [97], str [107, 101, 121, 115], str [115], str [117, 115, 101, 114, 95, 105, 100]] 9)).alloc (.cells #[str [117, 115, 101, 114, 95, 105, 100]] 9)).drew) (.slice Akv 3 ckv) (.slice Apv ps.length cpv)) v2 [.int .i64 k2, .int .i64 m2, str t2, .slice Ak2 nk2 ck2, .slice Ap2 np2 cp2] from
          VInS.mono (fun b hb => ⟨⟨hb.1.1, Nat.lt_of_lt_of_le hb.1.2 hbW.size⟩, hb.2⟩) _ _ (VInS.kept (fun p hp => hbW.cell hp.1.2) _ _ hvL))
        have Hb2 := Lib.hid (hbvL.below hbW hbvL.lt)
        have Hb1 := Lib.hid (hbr3.below hbW hbr3.lt)
        have Hbp := Lib.hid (hbp3.below hbW hbp3.lt)
        have HbW := Lib.hid (hbW.mono (by omega : w.heap.size ≤ y5.heap.size))
        clear hbW hbvL hownL hvL hbr3 hbp3
        go_region_law (refine step_putK2 rfl _ _ rfl (w2 w) _ _ _ ps [117, 115, 101, 114, 95, 105, 100] (by rfl) HownW.out ⟨y5.heap.size + 1, 0, none⟩ 1 (by rfl) HcW.out (by simp [okL]) HBW.out ?_; intro v6 y6 hown6 hbl6 hvk6 hgr6; rw [w2_size] at hbl6; obtain ⟨⟨Ak6, ck6, hv6q⟩, _⟩ := hown6.forms; have hv6e : v6 = .slice Ak6 4 ck6 := hv6q; clear hv6q; rw [hv6e] at hown6 hvk6; rw [hv6e]; clear hv6e; have hbv6 := Hb2.out.below hbl6 (by omega); have hbr6 := Hb1.out.below hbl6 (by omega); have hbp6 := Hbp.out.grown hgr6 hknL; have hv6 := hvk6 _ _ HvW.out; clear hvk6 hgr6; obtain ⟨u0', u1', u2', u3', u4', z0', z1', z2', z3', z4'⟩ := box_facts hbv6)
        all_goals
          have hown7 := hown6.only (g := w.heap.size + 1) (only_setCell (World.grownBy.refl _ _) (p := ⟨w.heap.size + 1, 3, none⟩) (.inl rfl) (.slice Ak6 4 ck6)) (by rw [w2_size]; omega)
          have hbv7 := hbv6.set_ 3 (.slice Ak6 4 ck6)
          have hbr7 := hbr6.far (p := ⟨w.heap.size + 1, 3, none⟩) (by simp) (.slice Ak6 4 ck6)
          have hbp7 := hbp6.far (p := ⟨w.heap.size + 1, 3, none⟩) (by show gp ≠ w.heap.size + 1; omega) (.slice Ak6 4 ck6)
          have hb7 : Below w.heap.size y5 (y6.setCell ⟨w.heap.size + 1, 3, none⟩ (.slice Ak6 4 ck6)) := (HbW.out.trans (hbl6.mono (by omega))).setCell (p := ⟨w.heap.size + 1, 3, none⟩) (by simp) _
          have hv7 : VInS (y6.setCell ⟨w.heap.size + 1, 3, none⟩ (.slice Ak6 4 ck6)) (besides (w2 w) (y6.setCell ⟨w.heap.size + 1, 3, none⟩ (.slice Ak6 4 ck6)) (.slice Ak6 4 ck6) (.slice Apv ps.length cpv)) v2 [.int .i64 k2, .int .i64 m2, str t2, .slice Ak2 nk2 ck2, .slice Ap2 np2 cp2] :=
            VInS.mono (fun b hb => ⟨⟨hb.1.1, by have := hb.1.2; simpa [World.setCell] using this⟩, hb.2⟩) _ _ (VInS.kept (fun p hp => World.cell?_of_block (Below.heap_setCell _ _ _ _ (by show p.block ≠ w.heap.size + 1; have := hp.1.1; rw [w2_size] at this; omega))) _ _ hv6)
          clear u0' u1' u2' u3' u4' z0' z1' z2' z3' z4' hown6 hbv6 hbr6 hbp6 hv6 hbl6 q0 q1 q2 q3 q4 r0 r1 r2 r3 r4 HownW HBW HcW HvW Hb2 Hb1 Hbp HbW
          have hbv8 : Blk (y6.setCell ⟨w.heap.size + 1, 3, none⟩ (.slice Ak6 4 ck6)) (w.heap.size + 1) 25 #[.int .i64 7, .int .i64 0, str [], .slice Ak6 4 ck6, .slice Apv ps.length cpv] := hbv7
          clear hbv7
          have hz7 : gp < (y6.setCell ⟨w.heap.size + 1, 3, none⟩ (.slice Ak6 4 ck6)).heap.size := hbp7.lt
          have hz8 : w.heap.size + 1 < (y6.setCell ⟨w.heap.size + 1, 3, none⟩ (.slice Ak6 4 ck6)).heap.size := hbv8.lt
          generalize y6.setCell ⟨w.heap.size + 1, 3, none⟩ (.slice Ak6 4 ck6) = y7 at *
          obtain ⟨p0, p1, p2, p3, p4, f0, f1, f2, f3, f4⟩ := box_facts hbp7
          obtain ⟨q0, q1, q2, q3, q4, r0, r1, r2, r3, r4⟩ := box_facts hbv8
          have HB7 := Lib.hid (show (w2 w).heap.size ≤ y7.heap.size by rw [w2_size]; omega)
          have Hown7 := Lib.hid hown7
          have Hv7 := Lib.hid hv7
          have Hbv8 := Lib.hid hbv8
          have Hbr7 := Lib.hid hbr7
          clear hown7 hv7
          go_wp2_with (at_builtin
                       go_loud (refine wpList_putO rfl _ _ rfl (w2 w) _ _ _ ps v2 _ (by rfl) Hown7.out Hv7.out _ rfl _ (by rfl) (by simp) hpl4 HB7.out ?_)
                       intro v9 y9 hown9 hbl9
                       rw [w2_size] at hbl9
                       have hbv9 := Hbv8.out.below hbl9 (by omega)
                       have hbr9 := Hbr7.out.below hbl9 (by omega)
                       obtain ⟨_, ⟨Ap9, cp9, hv9e⟩⟩ := hown9.forms
                       rw [hv9e] at hown9
                       rw [hv9e]
                       clear hv9e
                       obtain ⟨s0, s1, s2, s3, s4, t0, t1, t2', t3, t4⟩ := box_facts hbv9)
          have hpl1 : (ps ++ [v2]).length = ps.length + 1 := by simp
          rw [hpl1] at hown9
          go_roundg (4 - (3 + 1))
          case measure => have := Hgk.out; omega
          case rel =>
            have hb9 : Below w.heap.size y5 (y9.setCell ⟨w.heap.size + 1, 4, none⟩ (.slice Ap9 (ps.length + 1) cp9)) := (hb7.trans (hbl9.mono (by omega))).setCell (p := ⟨w.heap.size + 1, 4, none⟩) (by simp) _
            have hszF := hb9.size
            refine ⟨3 + 1, ps ++ [v2], A2, n2, c2, .slice Ak6 4 ck6, .slice Ap9 (ps.length + 1) cp9, by go_num, by omega, rfl, rfl, HI2.out.below (hb9.mono hB), by rw [hpl1, Hpl.out], hbr9.far (p := ⟨w.heap.size + 1, 4, none⟩) (by simp) _, hbv9.set_ 4 _, ?_, ?_, ?_, Hbl3.out.trans hb9, by omega⟩
            · exact hown9.only (g := w.heap.size + 1) (only_setCell (World.grownBy.refl _ _) (.inl rfl) _) (by rw [w2_size]; omega)
            · intro p hp
              rcases List.mem_append.1 hp with hp | hp
              · exact Hok.out p hp
              · rw [List.mem_singleton] at hp; subst hp; exact Hok2.out
            · rw [counts_snoc]
              have h1 := Hcn.out
              have h2 := Hct2.out
              omega
    · have hltI : ¬ (j : Int) < (m : Int) := by omega
      obtain ⟨⟨Akv, ckv, rfl⟩, ⟨Apv, cpv, rfl⟩⟩ := hown.forms
      generalize hLL : (okL.take j).length = L at hown hbv
      have HL := Lib.hid hLL
      clear hLL
      obtain ⟨q0, q1, q2, q3, q4, r0, r1, r2, r3, r4⟩ := box_facts hbv
      obtain ⟨s0, s1, s2, s3, s4, t0, t1, t2', t3, t4⟩ := box_facts hbr
      have Hown := Lib.hid hown
      have hjb : decide ((j : Int) < (m : Int)) = false := by simp; omega
      clear hown
      go_wp2_with fail
      refine (pk _).mono ?_
      rintro e y ⟨rfl, rfl⟩
      go_wp2_with fail
      have hkl1 : (okL.take j).length ≤ 1048576 := by simp [okL]; omega
      have hkl2 : ∀ s ∈ (okL.take j), s.length ≤ 1048576 := fun s hs => okL_len s (List.mem_of_mem_take hs)
      refine ret_v1 (by rfl) (by rfl) (sl_set5 hbr _ _ _ _ _) (by rfl) ?_
      have hown' := Hown.out
      rw [← HL.out] at hown'
      have hval := hown'.value 7 (.inr rfl) hkl1 (by have := Hpl.out; omega) hkl2
      rw [HL.out] at hval
      have hbF := below_set5 hbl (Nat.le_refl w.heap.size) (.int .i64 7) (.int .i64 0) (str []) (.slice Akv L ckv) (.slice Apv ps.length cpv)
      refine ⟨.mk 7 0 [] (okL.take j) ps, _, rfl, ?_, ObjM.of hj Hpl.out Hok.out Hcn.out, hbF⟩
      exact VInS.toB (fun b hb => by rw [size_set5]; exact hb.2) _ _ (VInS.kept (fun p hp => cell_set5 (by have := hp.1; rw [w2_size] at this; omega) _ _ _ _ _) _ _ hval)
end Go.Proofs.YthkbeliplibiaaaGreatDoor

/- Values in boxes of the statements' own, and what the calls say of objects that are sealed. -/
namespace Go.Proofs.YthkbeliplibiaaaGreatDoor
set_option linter.unusedVariables false
set_option linter.unusedSimpArgs false
open Go.RowKit
/-- The value v in the box g; what it points to is older than the box. -/
structure VBx (W : World) (g : Nat) (v : JV) (k n : Int) (t : List UInt8) (Ak : Option Addr) (nk ck : Nat) (Ap : Option Addr) (np cp : Nat) : Prop where
  box : Blk W g 25 #[.int .i64 k, .int .i64 n, str t, .slice Ak nk ck, .slice Ap np cp]
  val : VIn W g v [.int .i64 k, .int .i64 n, str t, .slice Ak nk ck, .slice Ap np cp]
section
variable {W W' : World} {g : Nat} {v : JV} {k n : Int} {t : List UInt8} {Ak : Option Addr} {nk ck : Nat} {Ap : Option Addr} {np cp : Nat}
theorem VBx.new (h : VIn W W.heap.size v [.int .i64 k, .int .i64 n, str t, .slice Ak nk ck, .slice Ap np cp]) : VBx (W.alloc (.cells #[.int .i64 k, .int .i64 n, str t, .slice Ak nk ck, .slice Ap np cp] 25)) W.heap.size v k n t Ak nk ck Ap np cp :=
  ⟨Blk.new _ _ _, h.below ((Below.refl _ _).alloc (Nat.le_refl _) _)⟩
theorem VBx.lt (h : VBx W g v k n t Ak nk ck Ap np cp) : g < W.heap.size := h.box.lt
theorem VBx.below (h : VBx W g v k n t Ak nk ck Ap np cp) (hb : Below W.heap.size W W') : VBx W' g v k n t Ak nk ck Ap np cp :=
  ⟨h.box.below hb h.box.lt, h.val.below (hb.mono (Nat.le_of_lt h.lt))⟩
theorem VBx.cells (h : VBx W g v k n t Ak nk ck Ap np cp) : W.cell? ⟨g, 0, none⟩ = some (.int .i64 k) ∧ W.cell? ⟨g, 1, none⟩ = some (.int .i64 n) ∧ W.cell? ⟨g, 2, none⟩ = some (str t) ∧ W.cell? ⟨g, 3, none⟩ = some (.slice Ak nk ck) ∧ W.cell? ⟨g, 4, none⟩ = some (.slice Ap np cp) :=
  ⟨h.box.cell 0, h.box.cell 1, h.box.cell 2, h.box.cell 3, h.box.cell 4⟩
end
theorem VIn.nkeys {w : World} {B : Nat} {v : JV} {k n : Int} {t : List UInt8} {Ak : Option Addr} {nk ck : Nat} {Ap : Option Addr} {np cp : Nat} (h : VIn w B v [.int .i64 k, .int .i64 n, str t, .slice Ak nk ck, .slice Ap np cp]) : nk = v.keys.length ∧ np = v.parts.length := by
  cases v with
  | mk k' n' t' ks ps =>
    unfold VIn at h
    obtain ⟨Ak', ck', Ap', cp', pc, hcs, _⟩ := h
    injection hcs with _ hcs; injection hcs with _ hcs; injection hcs with _ hcs; injection hcs with e4 hcs; injection hcs with e5 hcs
    injection e4 with _ e42 _
    injection e5 with _ e52 _
    exact ⟨e42, e52⟩
theorem sec_of (x : Int) : Sec (secOf x) := ⟨(secOf_lt x).1, (secOf_lt x).2⟩
/-- sealedBy, where Put has no error. -/
theorem sealedBy_ok {v J : JV} {u : List UInt8} {x y : Int} (h : putN v u kE (secOf x) (secOf y) = 0 ∧ putV v u kE (secOf x) (secOf y) = J) (cs : List Value) (w : World) (B : Nat) (hB : B ≤ w.heap.size) (hv : VIn w B v cs) (htab : Tab w.heap.size w) (hgl : Gl w) (hcnt : count v ≤ 1073741824) (hu : u.length ≤ maxLen) :
    Calls Tryz.prog 11 #[.agg cs.toArray, str u, .int .i64 x, .int .i64 y] w (SbyPost J (pw 4 (secOf x) % 7823) true w) := by
  have := sealedBy_any v cs u x y w B hB hv htab hgl hcnt hu
  rwa [h.2, h.1, decide_eq_true rfl] at this
theorem Obj0.count {v : JV} (h : Obj0 v) : count v ≤ 1073741824 := by have := h.many; rw [h.plain.form]; simp only [Go.Proofs.YthkbeliplibiaaaGreatDoor.count]; omega
theorem Obj0.sealed_count {v S : JV} (h : Obj0 v) (hS : SOk S) : Go.Proofs.YthkbeliplibiaaaGreatDoor.count (insO sigK v S) ≤ 1073741824 := by
  have := h.sealed_many hS
  rw [(h.sealed hS).form]; simp only [Go.Proofs.YthkbeliplibiaaaGreatDoor.count]; omega
theorem Obj0.len {v : JV} (h : Obj0 v) : (jtext v).length ≤ 600 := by have := h.text; omega
/-- The first seal of an object. -/
theorem put_one {v : JV} {u : List UInt8} {a k : Nat} (h : Obj0 v) (ha : Sec a) (hk : Sec k) (hu : u = uA ∨ u = uB) : putN v u kE a k = 0 ∧ putV v u kE a k = insO sigK v (S1 u (sigOf a k (jtext v))) :=
  put_says ha hk hu h.says.1 h.says.2 h.len (h.free u) (by rw [h.plain.put sigK [u, kE] h.sig, put_S1]) (h.sealed_check (S1_ok hu (sigOf_is _ _ _)))
/-- The second one, by uB or by uA. -/
theorem put_twoB {v e : JV} {a k : Nat} (h : Obj0 v) (ha : Sec a) (hk : Sec k) (he : IsSig e) : putN (insO sigK v (S1 uA e)) uB kE a k = 0 ∧ putV (insO sigK v (S1 uA e)) uB kE a k = insO sigK v (S2 e (sigOf a k (jtext v))) :=
  put_says ha hk (.inr rfl) (h.sealed_says (S1_ok (.inl rfl) he)).1 (h.sealed_says (S1_ok (.inl rfl) he)).2 h.len (h.sealed_free (S1_ok (.inl rfl) he) uB (by rw [get_S1B']; simp)) (by rw [insO_put sigK [uB, kE] h.plain, put_S1B]) (h.sealed_check (S2_ok he (sigOf_is _ _ _)))
theorem put_twoA {v e : JV} {a k : Nat} (h : Obj0 v) (ha : Sec a) (hk : Sec k) (he : IsSig e) : putN (insO sigK v (S1 uB e)) uA kE a k = 0 ∧ putV (insO sigK v (S1 uB e)) uA kE a k = insO sigK v (S2 (sigOf a k (jtext v)) e) :=
  put_says ha hk (.inl rfl) (h.sealed_says (S1_ok (.inr rfl) he)).1 (h.sealed_says (S1_ok (.inr rfl) he)).2 h.len (h.sealed_free (S1_ok (.inr rfl) he) uA (by rw [get_S1A']; simp)) (by rw [insO_put sigK [uA, kE] h.plain, put_S1A]) (h.sealed_check (S2_ok (sigOf_is _ _ _) he))
/-- The first user's once more. -/
theorem put_again {v e f : JV} {a k : Nat} (h : Obj0 v) (ha : Sec a) (hk : Sec k) (he : IsSig e) (hf : IsSig f) : putN (insO sigK v (S2 e f)) uA kE a k = 0 ∧ putV (insO sigK v (S2 e f)) uA kE a k = insO sigK v (S2 (sigOf a k (jtext v)) f) :=
  put_says ha hk (.inl rfl) (h.sealed_says (S2_ok he hf)).1 (h.sealed_says (S2_ok he hf)).2 h.len (h.sealed_free (S2_ok he hf) uA (by rw [get_S2A']; intro p hp; injection hp with hp; rw [← hp]; rfl)) (by rw [insO_put sigK [uA, kE] h.plain, put_S2]) (h.sealed_check (S2_ok (sigOf_is _ _ _) hf))
/-- Check of what is sealed. -/
theorem chk_in {v S : JV} {u : List UInt8} {a k : Nat} (h : Obj0 v) (hS : SOk S) (ha : Sec a) (hk : Sec k) (hu : u = uA ∨ u = uB) (hg : getAt [u, kE] S = some (sigOf a k (jtext v))) : chkN (insO sigK v S) u kE ((pw 4 a % 7823 : Nat) : Int) = 0 :=
  chk_good ha hk hu (h.sealed_says hS).1 (h.sealed_says hS).2 h.len (by rw [insO_get sigK [u, kE] h.plain]; exact hg)
end Go.Proofs.YthkbeliplibiaaaGreatDoor
