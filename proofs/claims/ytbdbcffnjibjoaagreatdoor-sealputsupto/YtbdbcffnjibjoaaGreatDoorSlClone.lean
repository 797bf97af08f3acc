/- seal.clone: the copy is the call's own as a whole. -/
import Derived.Test.YtbdbcffnjibjoaaGreatDoorSlOwn
import Derived.Test.YtbdbcffnjibjoaaGreatDoorNServ
import Derived.Deep.RegionHeld3
import Derived.Deep.RegionLaw
import Derived.Deep.RegionWith
import Derived.Deep.DeepFit
import Derived.Deep.DeepCutAuto
namespace Go.Proofs.YtbdbcffnjibjoaaGreatDoor
set_option linter.unusedVariables false
set_option linter.unusedSimpArgs false
open Go.RowKit
attribute [local go_sem high] str_mk
theorem sclone_any (s : List UInt8) (w : World) (hs : s.length ≤ 1048576) :
    Calls Tryz.prog 31 #[str s] w fun e w' => e = .returned (str s) ∧ Below w.heap.size w w' := by
  go_enter Tryz.func31, Tryz.ntmps31
  go_wp2_with fail
  refine (Tryz.stringslite_Clone ⟨s.toArray⟩ _ (by show s.length ≤ _; omega)).mono ?_
  rintro e w1 ⟨rfl, hb⟩
  go_wp2_with fail
  go_ret
  exact ⟨rfl, hb⟩
def ClonePost (v : JV) (w : World) (e : Ending) (w' : World) : Prop := ∃ cs', e = .returned (.agg cs'.toArray) ∧ VOw w' (newS w w') v cs' ∧ Below w.heap.size w w'
/-- An append of one key to a row of the call's own. -/
theorem own_putK {W : World} {kv : Value} {ks : List (List UInt8)} (h : W.ownsRow 0 9 1 kv ks.length (ks.map str)) (ty : TypeId) (key : List UInt8) (ad : Addr) (c : Nat) (hc : W.cell? (ad.add 0) = some (str key)) (hn : ks.length + 1 ≤ 1048576) :
    ∃ v' w', (Builtin.append_ #[22, 22] ty #[kv, .slice (some ad) 1 c]).run Tryz.prog W = .ok v' w' ∧ w'.ownsRow 0 9 1 v' (ks ++ [key]).length ((ks ++ [key]).map str) ∧ W.grownBy w' kv.ownBlock ∧ (v'.ownBlock = kv.ownBlock ∨ v'.ownBlock = some W.heap.size) := by
  obtain ⟨i0, hi0, hz0, hz1, hz2⟩ := info_parts sl_info_str
  obtain ⟨v', w', hrun, k1, k2, _, k4⟩ := run_append_own_at (P := Tryz.prog) W 0 22 ty 9 i0 _ 1 16 Tryz.underlying22 hi0 hz0 hz1 hz2 rfl (by decide) kv ks.length _ h ad 1 c [str key] rfl
    (fun j u hu => by
      match j, hu with
      | 0, hu => simp at hu; subst hu; exact hc
      | j + 1, hu => simp at hu) (by simp; rfl) (by unfold maxLen; omega) (by omega) (Nat.zero_le _)
  exact ⟨v', w', hrun, by simpa using k1, k2, k4⟩
theorem own_putP {W : World} {pv : Value} {m : Nat} {xs : List Value} (h : W.ownsRow 0 25 5 pv m xs) (ty : TypeId) (cs : List Value) (hl : cs.length = 5) (h1 : ∀ u ∈ cs, u.oneCell' = true) (ad : Addr) (c : Nat)
    (hc : ∀ j u, cs[j]? = some u → W.cell? (ad.add j) = some u) (hn : m + 1 ≤ 1048576) :
    ∃ v' w', (Builtin.append_ #[23, 23] ty #[pv, .slice (some ad) 1 c]).run Tryz.prog W = .ok v' w' ∧ w'.ownsRow 0 25 5 v' (m + 1) (xs ++ cs) ∧ W.grownBy w' pv.ownBlock ∧ (v'.ownBlock = pv.ownBlock ∨ v'.ownBlock = some W.heap.size) := by
  obtain ⟨i0, hi0, hz0, hz1, hz2⟩ := info_parts sl_info_val
  obtain ⟨v', w', hrun, k1, k2, _, k4⟩ := run_append_own_at (P := Tryz.prog) W 0 23 ty 25 i0 _ 5 80 Tryz.underlying23 hi0 hz0 hz1 hz2 rfl (by decide) pv m xs h ad 1 c cs (by omega) hc h1 (by unfold maxLen; omega) (by omega) (Nat.zero_le _)
  exact ⟨v', w', hrun, k1, k2, k4⟩
section
variable {W : World} {ops : Array Oper} {o : Oper} {a : Act} {K : Act → World → Prop} {Q : Exit → Act → World → Prop} {E : Prop}
theorem step_ownK (hgd : o.guard = none) (s x : Operand) (ho : o.op = .call { callee := .builtin .append, args := #[s, x], argTypes := #[22, 22] })
    (kv : Value) (ks : List (List UInt8)) (key : List UInt8) (hs : a.eval s = kv) (h : W.ownsRow 0 9 1 kv ks.length (ks.map str)) (ad : Addr) (c : Nat) (hx : a.eval x = .slice (some ad) 1 c) (hc : W.cell? (ad.add 0) = some (str key)) (hn : ks.length + 1 ≤ 1048576)
    (hk : ∀ v' w', w'.ownsRow 0 9 1 v' (ks ++ [key]).length ((ks ++ [key]).map str) → W.grownBy w' kv.ownBlock → (v'.ownBlock = kv.ownBlock ∨ v'.ownBlock = some W.heap.size) → K (a.put o.dst v') w') : if Region.wanted o (yielded ops a.tmps) = true then Oper.wp Tryz.prog o a W K Q else E := by
  obtain ⟨v', w', hrun, h1, h2, h3⟩ := own_putK h o.type key ad c hc hn
  exact step_app hgd s x _ ho _ _ hs hx hrun (hk v' w' h1 h2 h3)
theorem step_ownP (hgd : o.guard = none) (s x : Operand) (ho : o.op = .call { callee := .builtin .append, args := #[s, x], argTypes := #[23, 23] })
    (pv : Value) (m : Nat) (xs cs : List Value) (hs : a.eval s = pv) (h : W.ownsRow 0 25 5 pv m xs) (hl : cs.length = 5) (h1 : ∀ u ∈ cs, u.oneCell' = true) (ad : Addr) (c : Nat) (hx : a.eval x = .slice (some ad) 1 c) (hc : ∀ j u, cs[j]? = some u → W.cell? (ad.add j) = some u) (hn : m + 1 ≤ 1048576)
    (hk : ∀ v' w', w'.ownsRow 0 25 5 v' (m + 1) (xs ++ cs) → W.grownBy w' pv.ownBlock → (v'.ownBlock = pv.ownBlock ∨ v'.ownBlock = some W.heap.size) → K (a.put o.dst v') w') : if Region.wanted o (yielded ops a.tmps) = true then Oper.wp Tryz.prog o a W K Q else E := by
  obtain ⟨v', w', hrun, k1, k2, k3⟩ := own_putP h o.type cs hl h1 ad c hc hn
  exact step_app hgd s x _ ho _ _ hs hx hrun (hk v' w' k1 k2 k3)
end
/-- The loop over the keys: the copy lies in the box g. -/
def ClK (k n : Int) (t : List UInt8) (ks : List (List UInt8)) (g : Nat) (w : World) (gk : Nat) (i : Value) (wr : World) : Prop :=
  ∃ (j : Nat) (kv : Value), i = .int .i64 j ∧ j ≤ ks.length ∧ gk = ks.length - j ∧ Blk wr g 25 #[.int .i64 k, .int .i64 n, str t, kv, .slice none 0 0] ∧
    wr.ownsRow 0 9 1 kv (ks.take j).length ((ks.take j).map str) ∧ (∀ b, kv.ownBlock = some b → g < b) ∧ Below g w wr
/-- The loop over the parts. -/
def ClP (k n : Int) (t : List UInt8) (ps : List JV) (kv : Value) (g : Nat) (w : World) (gk : Nat) (i : Value) (wr : World) : Prop :=
  ∃ (j : Nat) (pv : Value) (xs : List Value) (G : Nat → Prop), i = .int .i64 j ∧ j ≤ ps.length ∧ gk = ps.length - j ∧ Blk wr g 25 #[.int .i64 k, .int .i64 n, str t, kv, pv] ∧
    wr.ownsRow 0 25 5 pv j xs ∧ (∀ b, pv.ownBlock = some b → w.heap.size ≤ b) ∧ POw wr G (ps.take j) xs ∧ (∀ b, G b → w.heap.size ≤ b ∧ b < wr.heap.size ∧ pv.ownBlock ≠ some b) ∧
    w.grownBy wr (some g)
theorem sl_cell5 {w : World} {g' b o : Nat} (hp : b ≠ g') (b0 b1 b2 b3 b4 : Value) : (((((w.setCell ⟨g', 0, none⟩ b0).setCell ⟨g', 1, none⟩ b1).setCell ⟨g', 2, none⟩ b2).setCell ⟨g', 3, none⟩ b3).setCell ⟨g', 4, none⟩ b4).cell? ⟨b, o, none⟩ = w.cell? ⟨b, o, none⟩ :=
  World.cell?_of_block (sl_block5 hp _ _ _ _ _)
theorem take_len {α : Type} (l : List α) (j : Nat) (h : j ≤ l.length) : (l.take j).length = j := by simp; omega
set_option maxRecDepth 100000 in
set_option maxHeartbeats 2000000 in
theorem clone_step (f : Nat) (ih : ∀ (v : JV) (cs : List Value) (w : World) (B : Nat), count v ≤ f → B ≤ w.heap.size → VIn w B v cs → Calls Tryz.prog 11 #[.agg cs.toArray] w (ClonePost v w))
    (v : JV) (cs : List Value) (w : World) (B : Nat) (hf : count v ≤ f + 1) (hB : B ≤ w.heap.size) (hv : VIn w B v cs) : Calls Tryz.prog 11 #[.agg cs.toArray] w (ClonePost v w) := by
  cases v with
  | mk k n t ks ps =>
  unfold VIn at hv
  obtain ⟨Ak, ck, Ap, cp, pc, rfl, hk1, hn1, ht, hks, hps, hkl, hck, hcp, hh1, hh2, hpin⟩ := hv
  have HW0 := Lib.hid (show Below w.heap.size w ((w.alloc (.cells #[.int .i64 k, .int .i64 n, str t, .slice Ak ks.length ck, .slice Ap ps.length cp] 25)).alloc (.cells #[.int .i64 0, .int .i64 0, str [], .slice none 0 0, .slice none 0 0] 25)) from
    ((Below.refl _ _).alloc (Nat.le_refl _) _).alloc (by simp) _)
  have H1 := Lib.hid ((Blk.new w 25 #[.int .i64 k, .int .i64 n, str t, .slice Ak ks.length ck, .slice Ap ps.length cp]).alloc (.cells #[.int .i64 0, .int .i64 0, str [], .slice none 0 0, .slice none 0 0] 25))
  have b2 := Blk.new (w.alloc (.cells #[.int .i64 k, .int .i64 n, str t, .slice Ak ks.length ck, .slice Ap ps.length cp] 25)) 25 #[.int .i64 0, .int .i64 0, str [], .slice none 0 0, .slice none 0 0]
  rw [show (w.alloc (.cells #[.int .i64 k, .int .i64 n, str t, .slice Ak ks.length ck, .slice Ap ps.length cp] 25)).heap.size = w.heap.size + 1 by simp] at b2
  have H2 := Lib.hid b2
  have Hsz := Lib.hid (show ((w.alloc (.cells #[.int .i64 k, .int .i64 n, str t, .slice Ak ks.length ck, .slice Ap ps.length cp] 25)).alloc (.cells #[.int .i64 0, .int .i64 0, str [], .slice none 0 0, .slice none 0 0] 25)).heap.size = w.heap.size + 2 by simp)
  have Hf := Lib.hid hf
  clear b2 hf
  go_enter Tryz.func11, Tryz.ntmps11
  go_wp2_with fail
  generalize hWe : ((w.alloc (.cells #[.int .i64 k, .int .i64 n, str t, .slice Ak ks.length ck, .slice Ap ps.length cp] 25)).alloc (.cells #[.int .i64 0, .int .i64 0, str [], .slice none 0 0, .slice none 0 0] 25)) = W0 at *
  have hsz0 : w.heap.size < W0.heap.size := by have := Hsz.out; omega
  obtain ⟨v0, v1, v2, v3, v4, -, -, -, -, -⟩ := sl_box H1.out
  have HzA := Lib.hid (show Below W0.heap.size W0 W0.drew from (Below.refl _ _).drew)
  have HzB := Lib.hid (show Below W0.heap.size W0 (W0.alloc (.cells #[.int .i64 0, .int .i64 0, str [], .slice none 0 0, .slice none 0 0] 25)).drew from ((Below.refl _ _).alloc (Nat.le_refl _) _).drew)
  have HnB := Lib.hid (show Blk (W0.alloc (.cells #[.int .i64 0, .int .i64 0, str [], .slice none 0 0, .slice none 0 0] 25)).drew W0.heap.size 25 #[.int .i64 0, .int .i64 0, str [], .slice none 0 0, .slice none 0 0] from Blk.new W0 _ _)
  have HCA := Lib.hid (sclone_any t W0.drew ht)
  have HCB := Lib.hid (sclone_any t (W0.alloc (.cells #[.int .i64 0, .int .i64 0, str [], .slice none 0 0, .slice none 0 0] 25)).drew ht)
  have Hhh1 := Lib.hid hh1
  have Hhh2 := Lib.hid hh2
  have Hpin := Lib.hid hpin
  clear hWe hh1 hh2 hpin
  go_cut [3] (fun s3 wx => ∃ g : Nat, s3 = .pointer (some ⟨g, 0, none⟩) ∧ Blk wx g 25 #[.int .i64 k, .int .i64 n, str t, .slice none 0 0, .slice none 0 0] ∧ W0.heap.size ≤ g ∧ Below W0.heap.size W0 wx)
  case first =>
    have hneW : w.heap.size ≠ W0.heap.size := by omega
    have d0 : W0.drew.cell? ⟨w.heap.size, 0, none⟩ = some (.int .i64 k) := v0
    have d1 : W0.drew.cell? ⟨w.heap.size, 1, none⟩ = some (.int .i64 n) := v1
    have d2 : W0.drew.cell? ⟨w.heap.size, 2, none⟩ = some (str t) := v2
    obtain ⟨e0, e1, e2, -, -, -, -, -, -, -⟩ := sl_box (H1.out.below HzB.out H1.out.lt)
    go_region_held3 (fun w' => w'.cell? ⟨w.heap.size, 0, none⟩ = some (.int .i64 k) ∧ w'.cell? ⟨w.heap.size, 1, none⟩ = some (.int .i64 n) ∧ w'.cell? ⟨w.heap.size, 2, none⟩ = some (str t))
      (first | with_reducible exact ⟨d0, d1, d2⟩ | with_reducible exact ⟨e0, e1, e2⟩ | with_reducible exact ⟨g0, g1, g2⟩ | go_keep | exact ⟨(sl_cell5 hneW _ _ _ _ _).trans g0, (sl_cell5 hneW _ _ _ _ _).trans g1, (sl_cell5 hneW _ _ _ _ _).trans g2⟩)
      (first
        | (go_at_call 31; go_fit (HCA.out); rintro e w1 ⟨rfl, hb3⟩; have Hb4 := Lib.hid (HzA.out.trans (hb3.mono HzA.out.size)); obtain ⟨g0, g1, g2, -, -, -, -, -, -, -⟩ := sl_box (H1.out.below Hb4.out H1.out.lt); have hs1 : w.heap.size < w1.heap.size := Nat.lt_of_lt_of_le hsz0 Hb4.out.size; have hs2 := World.new_ne w1 _ g0; clear hb3)
        | (go_at_call 31; go_fit (HCB.out); rintro e w1 ⟨rfl, hb3⟩; have Hb4 := Lib.hid (HzB.out.trans (hb3.mono HzB.out.size)); obtain ⟨g0, g1, g2, -, -, -, -, -, -, -⟩ := sl_box (H1.out.below Hb4.out H1.out.lt); have hs1 : w.heap.size < w1.heap.size := Nat.lt_of_lt_of_le hsz0 Hb4.out.size; have hbx := HnB.out.below hb3 (by simp); obtain ⟨s0, s1, s2, s3, s4, z0, z1, z2, z3, z4⟩ := sl_box hbx; have Hbx := Lib.hid hbx; clear hb3 hbx))
    all_goals
      go_wp2_with fail
      go_meet
      first
        | (have hB := Hbx.out; exact ⟨_, rfl, sl_set5 Hbx.out _ _ _ _ _, Nat.le_refl _, sl_below5 Hb4.out (Nat.le_refl _) _ _ _ _ _⟩)
        | exact ⟨_, rfl, Blk.new _ _ _, Hb4.out.size, Hb4.out.alloc Hb4.out.size _⟩
  case rest =>
    clear HCA HCB HnB HzA HzB v0 v1 v2 v3 v4
    obtain ⟨g, rfl, hbg, hgs, hbw⟩ := hcut
    have Hwc := Lib.hid (show Below w.heap.size w wc from HW0.out.trans (hbw.mono (by omega)))
    have hx := H1.out.below hbw H1.out.lt
    have hr := H2.out.below hbw H2.out.lt
    have hsz2 : W0.heap.size = w.heap.size + 2 := Hsz.out
    have hgw : w.heap.size + 2 ≤ g := by omega
    have Hbg := Lib.hid hbg
    have Hx := Lib.hid hx
    have Hr := Lib.hid hr
    have c3 : wc.cell? ⟨w.heap.size, 3, none⟩ = some (.slice Ak ks.length ck) := hx.cell 3
    clear hsz2 hgs hbg hbw hx hr Hsz H1 H2 HW0 hsz0
    go_wp2_with fail
    go_loopg [19] ks.length (ClK k n t ks g wc)
    case atStart => exact ⟨0, .slice none 0 0, rfl, by omega, by omega, Hbg.out, by simpa using World.ownsRow_nil wc 0 9 1, by simp [Value.ownBlock], Below.refl _ _⟩
    case round =>
      clear c3
      obtain ⟨j, kv, rfl, hj, hgk, hbgr, hown, hnb, hbr⟩ := hrel
      have Hgk := Lib.hid hgk
      have htl := take_len ks j hj
      have Htl := Lib.hid htl
      obtain ⟨A, c, hkv, _⟩ := own_form hown
      rw [htl] at hkv
      subst hkv
      have Hown := Lib.hid hown
      have Hbgr := Lib.hid hbgr
      have Hnb := Lib.hid hnb
      have Hbr := Lib.hid hbr
      have hgsz : g < wr.heap.size := hbgr.lt
      have Hwr := Lib.hid (show Below w.heap.size w wr from Hwc.out.trans (hbr.mono (by omega)))
      clear hgk htl hown hnb hbr
      by_cases hlt : j < ks.length
      · obtain ⟨b, off, hkl1, hAk, hb, hc⟩ := (Hhh1.out.below (Hwr.out.mono hB)).str hlt
        subst hAk
        have Hyl := Lib.hid (hkl ks[j] (List.getElem_mem hkl1))
        have Hts := Lib.hid (List.take_succ_eq_append_getElem hkl1)
        have Hn1 := Lib.hid (show (ks.take j).length + 1 ≤ 1048576 by rw [Htl.out]; omega)
        generalize hkj : ks.take j = kj at *
        have Hkj := Lib.hid hkj
        clear hkj
        generalize ks[j] = y at *
        obtain ⟨q0, q1, q2, q3, q4, r0, r1, r2, r3, r4⟩ := sl_box Hbgr.out
        have d3 : wr.drew.cell? ⟨g, 3, none⟩ = some (.slice A j c) := q3
        have HC := Lib.hid (sclone_any y wr.drew Hyl.out)
        have Hng := Lib.hid (show some g ≠ (Value.slice A j c).ownBlock by intro e; have := Hnb.out g e.symm; omega)
        go_wp2_with fail
        go_region_law (first
            | (go_simp; go_at_call 31; go_fit (HC.out); rintro e w2 ⟨rfl, hb2⟩
               have Hb2 := Lib.hid (show Below wr.heap.size wr w2 from (below_drewN (Below.refl _ wr) 1).trans hb2)
               have Hbg2 := Lib.hid (Hbgr.out.below Hb2.out Hbgr.out.lt)
               have s3 : w2.cell? ⟨g, 3, none⟩ = some (.slice A j c) := Hbg2.out.cell 3
               have hg2 : g < w2.heap.size := Hbg2.out.lt
               have HoA := Lib.hid ((sl_own_below Hown.out Hb2.out).alloc (.cells #[str y] 9))
               have HcA := Lib.hid (show (w2.alloc (.cells #[str y] 9)).cell? ((⟨w2.heap.size, 0, none⟩ : Addr).add 0) = some (str y) by rw [plus_addr]; exact (Blk.new w2 9 #[str y]).cell 0)
               have u3 : (w2.alloc (.cells #[str y] 9)).cell? ⟨g, 3, none⟩ = some (.slice A j c) := (Hbg2.out.alloc _).cell 3
               clear hb2)
            | (refine step_ownK rfl _ _ rfl _ kj y (by rfl) HoA.out ⟨w2.heap.size, 0, none⟩ 1 (by rfl) HcA.out Hn1.out ?_
               intro v4 y4 hown4 hgr4 hat4
               have Hbg4 := Lib.hid ((Hbg2.out.alloc (.cells #[str y] 9)).grown hgr4 Hng.out)
               have x3 : y4.cell? ⟨g, 3, none⟩ = some (.slice A j c) := Hbg4.out.cell 3
               have xf : y4.frozen? ⟨g, 3, none⟩ = false := Hbg4.out.frozen 3
               have Hown4 := Lib.hid hown4
               have Hgr4 := Lib.hid hgr4
               have Hat4 := Lib.hid hat4
               obtain ⟨A4, c4, hv4, _⟩ := own_form hown4
               clear hown4 hgr4 hat4
               subst hv4))
        all_goals
          go_wp2_with fail
          go_roundg (ks.length - (j + 1))
          case measure => have := Hgk.out; omega
          case rel =>
            have hz2 : wr.heap.size ≤ w2.heap.size := Hb2.out.size
            have hat : ∀ b', (Value.slice A4 (kj ++ [y]).length c4).ownBlock = some b' → g < b' := by
              intro b' hb'
              rcases Hat4.out with h | h
              · exact Hnb.out b' (h ▸ hb')
              · rw [h] at hb'; injection hb' with hb'; simp at hb'; omega
            have hb4 : Below g wr y4 := ((Hb2.out.mono (by omega)).alloc (by omega) _).grown Hgr4.out (by simp; omega) (fun b' hb' => Nat.le_of_lt (Hnb.out b' hb'))
            have hk1 : (kj ++ [y]).length = kj.length + 1 := by simp
            have hbx := Hbg4.out.set_ 3 (.slice A4 (kj.length + 1) c4)
            have hoF : (y4.setCell ⟨g, 3, none⟩ (.slice A4 (kj.length + 1) c4)).ownsRow 0 9 1 (.slice A4 (kj.length + 1) c4) (kj ++ [y]).length ((kj ++ [y]).map str) := by
              rw [← hk1]
              exact sl_own_kept Hown4.out fun b' hb' => Below.heap_setCell _ _ _ _ (by have := hat b' hb'; show b' ≠ g; omega)
            refine ⟨j + 1, .slice A4 (kj.length + 1) c4, by go_num, by omega, rfl, hbx, ?_, ?_, Hbr.out.trans (hb4.setCell (p := ⟨g, 3, none⟩) (by show g ≤ g; omega) _)⟩
            · rw [Hts.out]; exact hoF
            · rw [← hk1]; exact hat
      · have hjn : j = ks.length := by omega
        have hjb : decide ((j : Int) < (ks.length : Int)) = false := by simp; omega
        have htk : ks.take j = ks := by rw [hjn, List.take_length]
        rw [htk] at Hown
        have HownK := Lib.hid (show wr.ownsRow 0 9 1 (.slice A j c) ks.length (ks.map str) from Hown.out)
        have Hx2 := Lib.hid (Hx.out.below (Hbr.out.mono (show w.heap.size + 2 ≤ g from hgw)) (by omega))
        have Hr2 := Lib.hid (Hr.out.below (Hbr.out.mono (show w.heap.size + 2 ≤ g from hgw)) (by omega))
        have c4 : wr.cell? ⟨w.heap.size, 4, none⟩ = some (.slice Ap ps.length cp) := Hx2.out.cell 4
        clear htk Htl Hown Hhh1 Hx Hr Hbg Hwc hjn
        go_wp2_with fail
        obtain ⟨wp, rfl⟩ : ∃ wp, wp = wr := ⟨_, rfl⟩
        go_loopg [34] ps.length (ClP k n t ps (.slice A j c) g wp)
        case atStart => exact ⟨0, .slice none 0 0, [], fun _ => False, rfl, by omega, by omega, Hbgr.out, World.ownsRow_nil _ _ _ _, by simp [Value.ownBlock], by simp [POw], fun b h => h.elim, World.grownBy.refl _ _⟩
        case round =>
          clear c4
          obtain ⟨j', pv, xs, G, rfl, hj', hgk', hbg', hownP, hnbP, hPO, hG, hgro⟩ := hrel
          have Hgk' := Lib.hid hgk'
          obtain ⟨A', c', hpv, _⟩ := own_form hownP
          subst hpv
          have HownP := Lib.hid hownP
          have HnbP := Lib.hid hnbP
          have HPO := Lib.hid hPO
          have HG := Lib.hid hG
          have Hgro := Lib.hid hgro
          have Hbg' := Lib.hid hbg'
          have hszp : wp.heap.size ≤ wr.heap.size := hgro.size
          have hgsr : g < wr.heap.size := hbg'.lt
          have hbr2 : Below g wp wr := below_only hgro (Nat.le_refl _) (by omega)
          have Hwr2 := Lib.hid (show Below w.heap.size w wr from Hwr.out.trans (hbr2.mono (by omega)))
          have Hr3 := Lib.hid (Hr2.out.below (hbr2.mono (show w.heap.size + 2 ≤ g from hgw)) (by omega))
          have Hbr2 := Lib.hid hbr2
          clear hgk' hownP hnbP hPO hG hgro hbg' hbr2
          by_cases hlt : j' < ps.length
          · obtain ⟨bp, offp, k2, n2, t2, Ak2, nk2, ck2, Ap2, np2, cp2, hAp, hbp, hv2, x0, x1, x2, x3, x4⟩ := part_cells (Hhh2.out.below (Hwr2.out.mono hB)) (Hpin.out.below (Hwr2.out.mono hB)) j' hlt
            subst hAp
            have hA1 : Below wr.heap.size wr (wr.alloc (.cells #[.int .i64 k2, .int .i64 n2, str t2, .slice Ak2 nk2 ck2, .slice Ap2 np2 cp2] 25)).drew := ((Below.refl _ _).alloc (Nat.le_refl _) _).drew
            have hcp' : count ps[j'] ≤ f := by
              have h1 := Hf.out
              have h2 : count ps[j'] ≤ counts ps := by
                have : ∀ (l : List JV) (i : Nat) (h : i < l.length), count l[i] ≤ counts l := by
                  intro l
                  induction l with
                  | nil => intro i h; simp at h
                  | cons a l ihl =>
                    intro i h
                    cases i with
                    | zero => simp [counts]
                    | succ i => have := ihl i (by simpa using h); simp [counts]; omega
                exact this ps j' hlt
              simp [count] at h1; omega
            have HI := Lib.hid (ih ps[j'] [.int .i64 k2, .int .i64 n2, str t2, .slice Ak2 nk2 ck2, .slice Ap2 np2 cp2] (wr.alloc (.cells #[.int .i64 k2, .int .i64 n2, str t2, .slice Ak2 nk2 ck2, .slice Ap2 np2 cp2] 25)).drew B hcp' (Nat.le_trans (Nat.le_trans hB Hwr2.out.size) hA1.size) (hv2.below (hA1.mono (Nat.le_trans hB Hwr2.out.size))))
            have HA1 := Lib.hid hA1
            have Hps := Lib.hid (List.take_succ_eq_append_getElem hlt)
            have Htlp := Lib.hid (take_len ps j' (by omega))
            have hbpw : bp < wr.heap.size := by have := Hwr2.out.size; omega
            generalize hpj : ps.take j' = pj at *
            have Hpj := Lib.hid hpj
            clear hpj
            generalize ps[j'] = p at *
            obtain ⟨q0, q1, q2, q3, q4, r0, r1, r2, r3, r4⟩ := sl_box Hbg'.out
            have hjI : (j' : Int) < (ps.length : Int) := by omega
            have Hn1 := Lib.hid (show j' + 1 ≤ 1048576 by omega)
            have Hng := Lib.hid (show some g ≠ (Value.slice A' j' c').ownBlock by intro e; have := HnbP.out g e.symm; have h2 := Hbgr.out.lt; omega)
            clear hv2 hA1 hcp' ih
            go_wp2_with fail
            go_region_law (first
              | (go_simp; go_at_call 11; go_fit (HI.out); rintro e w2 ⟨cs', rfl, hvw, hb2⟩
                 have Hb2 := Lib.hid (show Below wr.heap.size wr w2 from HA1.out.trans (hb2.mono HA1.out.size))
                 have Hsz2 := Lib.hid hb2.size
                 have Hbg2 := Lib.hid (Hbg'.out.below Hb2.out Hbg'.out.lt)
                 have s4 : w2.cell? ⟨g, 4, none⟩ = some (.slice A' j' c') := Hbg2.out.cell 4
                 have hg2 : g < w2.heap.size := Hbg2.out.lt
                 obtain ⟨k3, n3, t3, Ak3, nk3, ck3, Ap3, np3, cp3, hcs'⟩ := hvw.form
                 have Hlen := Lib.hid hvw.len
                 have Hone := Lib.hid hvw.one
                 have Hvw := Lib.hid hvw
                 have Hcs' := Lib.hid hcs'
                 subst hcs'
                 have HoA := Lib.hid ((sl_own_below HownP.out Hb2.out).alloc (.cells #[.int .i64 k3, .int .i64 n3, str t3, .slice Ak3 nk3 ck3, .slice Ap3 np3 cp3] 25))
                 have HcA := Lib.hid (blk_cells (cs := [.int .i64 k3, .int .i64 n3, str t3, .slice Ak3 nk3 ck3, .slice Ap3 np3 cp3]) (Blk.new w2 25 #[.int .i64 k3, .int .i64 n3, str t3, .slice Ak3 nk3 ck3, .slice Ap3 np3 cp3]))
                 clear hb2 hvw)
              | (refine step_ownP rfl _ _ rfl _ j' xs [.int .i64 k3, .int .i64 n3, str t3, .slice Ak3 nk3 ck3, .slice Ap3 np3 cp3] (by rfl) HoA.out Hlen.out Hone.out ⟨w2.heap.size, 0, none⟩ 1 (by rfl) HcA.out Hn1.out ?_
                 intro v4 y4 hown4 hgr4 hat4
                 have Hbg4 := Lib.hid ((Hbg2.out.alloc (.cells #[.int .i64 k3, .int .i64 n3, str t3, .slice Ak3 nk3 ck3, .slice Ap3 np3 cp3] 25)).grown hgr4 Hng.out)
                 have xx4 : y4.cell? ⟨g, 4, none⟩ = some (.slice A' j' c') := Hbg4.out.cell 4
                 have xf : y4.frozen? ⟨g, 4, none⟩ = false := Hbg4.out.frozen 4
                 have Hown4 := Lib.hid hown4
                 have Hgr4 := Lib.hid hgr4
                 have Hat4 := Lib.hid hat4
                 obtain ⟨A4, c4, hv4, _⟩ := own_form hown4
                 clear hown4 hgr4 hat4
                 subst hv4))
            all_goals
              go_wp2_with fail
              go_roundg (ps.length - (j' + 1))
              case measure => have := Hgk'.out; omega
              case rel =>
                have hz2 : wr.heap.size + 1 ≤ w2.heap.size := by
                  have h1 := Hvw.out
                  have h2 := Hb2.out.size
                  have h3 := HA1.out.size
                  have h4 : (wr.alloc (.cells #[.int .i64 k2, .int .i64 n2, str t2, .slice Ak2 nk2 ck2, .slice Ap2 np2 cp2] 25)).drew.heap.size ≤ w2.heap.size := Hsz2.out
                  simp at h4; omega
                have hgp : g < wp.heap.size := Hbgr.out.lt
                have hold : ∀ b, (Value.slice A' j' c').ownBlock = some b → wp.heap.size ≤ b ∧ b < wr.heap.size := fun b hb => ⟨HnbP.out b hb, (World.ownsRow.lt HownP.out b hb).2⟩
                have hat : ∀ b, (Value.slice A4 (j' + 1) c4).ownBlock = some b → (Value.slice A' j' c').ownBlock = some b ∨ b = w2.heap.size + 1 := by
                  intro b hb
                  rcases Hat4.out with h | h
                  · exact .inl (h ▸ hb)
                  · rw [h] at hb; injection hb with hb; simp at hb; exact .inr hb.symm
                have hkeep : ∀ b, b < w2.heap.size → b ≠ g → (Value.slice A' j' c').ownBlock ≠ some b → (y4.setCell ⟨g, 4, none⟩ (.slice A4 (j' + 1) c4)).heap[b]? = w2.heap[b]? := by
                  intro b hb hbg hne
                  rw [Below.heap_setCell _ _ _ _ hbg, Hgr4.out.block b (by simp; omega) (fun e => hne e.symm), Below.heap_alloc _ _ _ hb]
                have hkeepr : ∀ b, b < wr.heap.size → b ≠ g → (Value.slice A' j' c').ownBlock ≠ some b → (y4.setCell ⟨g, 4, none⟩ (.slice A4 (j' + 1) c4)).heap[b]? = wr.heap[b]? := by
                  intro b hb hbg hne
                  rw [hkeep b (by omega) hbg hne, Hb2.out.block b hb]
                have hszF : (y4.setCell ⟨g, 4, none⟩ (.slice A4 (j' + 1) c4)).heap.size = y4.heap.size := by simp [World.setCell]
                have hszy : w2.heap.size + 1 ≤ y4.heap.size := by have := Hgr4.out.size; simpa using this
                have hrow : (y4.setCell ⟨g, 4, none⟩ (.slice A4 (j' + 1) c4)).ownsRow 0 25 5 (.slice A4 (j' + 1) c4) (j' + 1) (xs ++ [.int .i64 k3, .int .i64 n3, str t3, .slice Ak3 nk3 ck3, .slice Ap3 np3 cp3]) :=
                  sl_own_kept Hown4.out fun b hb => Below.heap_setCell _ _ _ _ (by
                    show b ≠ g
                    rcases hat b hb with h | h
                    · have := (hold b h).1; omega
                    · omega)
                have hPk := POw.kept pj G xs (fun b hb => hkeepr b (HG.out b hb).2.1 (by have := (HG.out b hb).1; omega) (HG.out b hb).2.2) HPO.out
                have hVk := VOw.kept p _ _ (fun b hb => hkeep b hb.2 (by have h1 := hb.1; simp at h1; omega) (fun e => by have h1 := hb.1; have h2 := (hold b e).2; simp at h1; omega)) Hvw.out
                have hsn := POw.snoc hPk hVk (fun b hb hg => by have h1 := hb.1; have h2 := (HG.out b hg).2.1; simp at h1; omega)
                refine ⟨j' + 1, .slice A4 (j' + 1) c4, _, _, by go_num, by omega, rfl, Hbg4.out.set_ 4 _, hrow, ?_, by rw [Hps.out]; exact hsn, ?_, ?_⟩
                · intro b hb
                  rcases hat b hb with h | h
                  · exact (hold b h).1
                  · omega
                · intro b hb
                  rw [hszF]
                  rcases hb with hb | hb
                  · have h1 := HG.out b hb
                    refine ⟨h1.1, by omega, fun e => ?_⟩
                    rcases hat b e with h | h
                    · exact h1.2.2 h
                    · omega
                  · have h1 := hb.1
                    have h2 := hb.2
                    simp at h1
                    refine ⟨by omega, by omega, fun e => ?_⟩
                    rcases hat b e with h | h
                    · have := (hold b h).2; omega
                    · omega
                · refine ⟨?_, ?_, ?_, by omega, fun b hb hne => ?_⟩
                  · exact (Hgr4.out.os.trans Hb2.out.os).trans Hgro.out.os
                  · exact (Hgr4.out.tape.trans Hb2.out.tape).trans Hgro.out.tape
                  · exact (Hgr4.out.output.trans Hb2.out.output).trans Hgro.out.output
                  · rw [hkeepr b (by omega) (fun e => hne (by rw [e])) (fun e => by have := (hold b e).1; omega)]
                    exact Hgro.out.block b hb hne
          · have hjn : j' = ps.length := by omega
            have hjb' : decide ((j' : Int) < (ps.length : Int)) = false := by simp; omega
            have htk : ps.take j' = ps := by rw [hjn, List.take_length]
            rw [htk] at HPO
            obtain ⟨q0, q1, q2, q3, q4, r0, r1, r2, r3, r4⟩ := sl_box Hbg'.out
            obtain ⟨o0, o1, o2, o3, o4, z0, z1, z2, z3, z4⟩ := sl_box Hr3.out
            have hgp : g < wp.heap.size := Hbgr.out.lt
            have Hjn := Lib.hid hjn
            clear htk hjn
            go_wp2_with fail
            refine ret_v1 (by rfl) (by rfl) (sl_set5 Hr3.out _ _ _ _ _) (by rfl) ?_
            refine ⟨[.int .i64 k, .int .i64 n, str t, .slice A j c, .slice A' j' c'], rfl, ?_, sl_below5 Hwr2.out (by omega) _ _ _ _ _⟩
            have hKb : ∀ b, (Value.slice A j c).ownBlock = some b → g < b ∧ b < wp.heap.size := fun b hb => ⟨Hnb.out b hb, (World.ownsRow.lt HownK.out b hb).2⟩
            have hk5 : ∀ b, g < b → (((((wr.setCell ⟨w.heap.size + 1, 0, none⟩ (.int .i64 k)).setCell ⟨w.heap.size + 1, 1, none⟩ (.int .i64 n)).setCell ⟨w.heap.size + 1, 2, none⟩ (str t)).setCell ⟨w.heap.size + 1, 3, none⟩ (.slice A j c)).setCell ⟨w.heap.size + 1, 4, none⟩ (.slice A' j' c')).heap[b]? = wr.heap[b]? := fun b hb => sl_block5 (by omega) _ _ _ _ _
            have hpb : ∀ b, (Value.slice A' j' c').ownBlock = some b → wp.heap.size ≤ b ∧ b < wr.heap.size := fun b hb => ⟨HnbP.out b hb, (World.ownsRow.lt HownP.out b hb).2⟩
            have hrK := sl_own_kept HownK.out (fun b hb => (hk5 b (hKb b hb).1).trans (Hgro.out.block b (hKb b hb).2 (by intro e; injection e with e; have := (hKb b hb).1; omega)))
            have hrP : (((((wr.setCell ⟨w.heap.size + 1, 0, none⟩ (.int .i64 k)).setCell ⟨w.heap.size + 1, 1, none⟩ (.int .i64 n)).setCell ⟨w.heap.size + 1, 2, none⟩ (str t)).setCell ⟨w.heap.size + 1, 3, none⟩ (.slice A j c)).setCell ⟨w.heap.size + 1, 4, none⟩ (.slice A' j' c')).ownsRow 0 25 5 (.slice A' j' c') ps.length xs := by
              rw [← Hjn.out]
              exact sl_own_kept HownP.out (fun b hb => hk5 b (by have := (hpb b hb).1; omega))
            unfold VOw
            refine ⟨.slice A j c, .slice A' j' c', xs, G, rfl, hk1, hn1, ht, hks, hps, hkl, hrK, hrP, fun b hb => ⟨?_, ?_⟩, fun b hb => ⟨?_, ?_⟩, fun b hb => ⟨⟨?_, ?_⟩, ?_, ?_⟩, ?_⟩
            · have := (hKb b hb).1; omega
            · rw [sl_size5]; have := (hKb b hb).2; omega
            · have := (hpb b hb).1; omega
            · rw [sl_size5]; exact (hpb b hb).2
            · have := (HG.out b hb).1; omega
            · rw [sl_size5]; exact (HG.out b hb).2.1
            · intro e; have h1 := (hKb b e).2; have h2 := (HG.out b hb).1; omega
            · exact (HG.out b hb).2.2
            · exact POw.kept ps G xs (fun b hb => hk5 b (by have := (HG.out b hb).1; omega)) HPO.out
theorem clone_ow (f : Nat) : ∀ (v : JV) (cs : List Value) (w : World) (B : Nat), count v ≤ f → B ≤ w.heap.size → VIn w B v cs → Calls Tryz.prog 11 #[.agg cs.toArray] w (ClonePost v w) := by
  induction f with
  | zero => intro v cs w B h; cases v; simp [count] at h
  | succ f ih => intro v cs w B hf hB hv; exact clone_step f ih v cs w B hf hB hv
end Go.Proofs.YtbdbcffnjibjoaaGreatDoor
