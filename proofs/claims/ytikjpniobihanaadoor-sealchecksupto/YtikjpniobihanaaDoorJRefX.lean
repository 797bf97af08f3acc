/- The document's own jsonText and JsonFault: what each call returns. -/
import Derived.Test.YtikjpniobihanaaDoorJRefF
import Derived.Test.YtikjpniobihanaaDoorJText
import Derived.Test.YtikjpniobihanaaDoorBunB
namespace Go.Proofs.YtikjpniobihanaaDoor
set_option linter.unusedVariables false
set_option linter.unusedSimpArgs false
open Go.RowKit
attribute [local go_sem high] str_mk

mutual
/-- Its strings are short. -/
def Small : JV → Prop
  | .mk _ n t ks ps => t.length ≤ 1048576 ∧ (∀ s ∈ ks, s.length ≤ 1048576) ∧ (-9223372036854775808 ≤ n ∧ n ≤ 9223372036854775807) ∧ Smalls ps
def Smalls : List JV → Prop
  | [] => True
  | p :: r => Small p ∧ Smalls r
end
mutual
theorem VIn.small {w : World} {B : Nat} : ∀ (v : JV) (cs : List Value), VIn w B v cs → Small v
  | .mk k n t ks ps, cs, h => by
    unfold VIn at h
    obtain ⟨Ak, ck, Ap, cp, pc, _, _, hn, ht, _, _, hkl, _, _, _, _, hp⟩ := h
    unfold Small
    exact ⟨ht, hkl, hn, PIn.small ps pc hp⟩
theorem PIn.small {w : World} {B : Nat} : ∀ (ps : List JV) (pc : List Value), PIn w B ps pc → Smalls ps
  | [], pc, h => by unfold Smalls; trivial
  | p :: r, pc, h => by
    unfold PIn at h
    obtain ⟨c, rest, _, h2, h3⟩ := h
    unfold Smalls
    exact ⟨VIn.small p c h2, PIn.small r rest h3⟩
end
theorem quo_bd (t : List UInt8) (h : t.length ≤ 1048576) : (quo t).length ≤ 6291458 := by
  have := flat_len t
  simp only [quo, List.length_cons, List.length_append, List.length_nil]; omega
mutual
theorem jtext_bd : ∀ v : JV, Small v → (jtext v).length + 6300000 ≤ 13000000 * count v
  | .mk k n t ks ps, h => by
    unfold Small at h
    obtain ⟨h1, h2, h3, h4⟩ := h
    have ha := jarr_bd true ps h4
    have ho := jobj_bd true ks ps h2 h4
    have hq := quo_bd t h1
    have hi := Lib.itoa_length_le n h3.1 h3.2
    rw [jtext, count]
    repeat' split
    all_goals (try simp only [List.length_cons, List.length_append, List.length_nil, tNull, tFalse, tTrue])
    all_goals omega
theorem jarr_bd : ∀ (f : Bool) (ps : List JV), Smalls ps → (jarr f ps).length ≤ 13000000 * counts ps
  | f, [], _ => by simp [jarr]
  | f, p :: r, h => by
    unfold Smalls at h
    have h1 := jtext_bd p h.1
    have h2 := jarr_bd false r h.2
    rw [jarr, counts]
    cases f <;> simp only [sep, List.length_cons, List.length_append, List.length_nil, if_true, if_false, Bool.false_eq_true] <;> omega
theorem jobj_bd : ∀ (f : Bool) (ks : List (List UInt8)) (ps : List JV), (∀ s ∈ ks, s.length ≤ 1048576) → Smalls ps → (jobj f ks ps).length ≤ 13000000 * counts ps
  | f, ks, [], _, _ => by cases ks <;> simp [jobj]
  | f, [], p :: r, _, _ => by simp [jobj]
  | f, k :: ks, p :: r, hk, h => by
    unfold Smalls at h
    have h1 := jtext_bd p h.1
    have h2 := jobj_bd false ks r (fun s hs => hk s (by simp [hs])) h.2
    have h3 := quo_bd k (hk k (by simp))
    rw [jobj, counts]
    cases f <;> simp only [sep, List.length_cons, List.length_append, List.length_nil, if_true, if_false, Bool.false_eq_true] <;> omega
end
theorem jarr_drop (f : Bool) (ps : List JV) (i : Nat) (hi : i < ps.length) : jarr f (ps.drop i) = sep f ++ (jtext ps[i] ++ jarr false (ps.drop (i + 1))) := by
  rw [List.drop_eq_getElem_cons hi, jarr]
theorem jobj_drop (f : Bool) (ks : List (List UInt8)) (ps : List JV) (i : Nat) (hk : i < ks.length) (hp : i < ps.length) :
    jobj f (ks.drop i) (ps.drop i) = sep f ++ (quo ks[i] ++ (58 :: (jtext ps[i] ++ jobj false (ks.drop (i + 1)) (ps.drop (i + 1))))) := by
  rw [List.drop_eq_getElem_cons hk, List.drop_eq_getElem_cons hp, jobj]

theorem box_facts2 {w : World} {g : Nat} {t : TypeId} {a0 a1 a2 a3 a4 : Value} (h : Blk w g t #[a0, a1, a2, a3, a4]) :
    w.cell? ⟨g, 0, none⟩ = some a0 ∧ w.cell? ⟨g, 1, none⟩ = some a1 ∧ w.cell? ⟨g, 2, none⟩ = some a2 ∧ w.cell? ⟨g, 3, none⟩ = some a3 ∧ w.cell? ⟨g, 4, none⟩ = some a4 ∧
    w.frozen? ⟨g, 0, none⟩ = false ∧ w.frozen? ⟨g, 1, none⟩ = false ∧ w.frozen? ⟨g, 2, none⟩ = false ∧ w.frozen? ⟨g, 3, none⟩ = false ∧ w.frozen? ⟨g, 4, none⟩ = false :=
  ⟨h.cell 0, h.cell 1, h.cell 2, h.cell 3, h.cell 4, h.frozen 0, h.frozen 1, h.frozen 2, h.frozen 3, h.frozen 4⟩
theorem count_part2 : ∀ {ps : List JV} (i : Nat) (h : i < ps.length), count ps[i] ≤ counts ps
  | [], i, h => by simp at h
  | p :: r, 0, _ => by simp [counts]
  | p :: r, i + 1, h => by
    have := count_part2 (ps := r) i (by simpa using h)
    simp [counts]; omega
theorem fines_mem2 : ∀ {ps : List JV} {x : JV}, Fines ps → x ∈ ps → Fine x
  | [], x, _, h => by cases h
  | p :: ps, x, hf, h => by
    unfold Fines at hf
    rcases List.mem_cons.1 h with rfl | h
    · exact hf.1
    · exact fines_mem2 hf.2 h
def RtA (T : List UInt8) (F : Bool → Nat → List UInt8) (m : Nat) (w : World) (gk : Nat) (out i : Value) (wr : World) : Prop :=
  ∃ (j : Nat) (o : List UInt8), out = str o ∧ i = .int .i64 j ∧ j ≤ m ∧ gk = m - j ∧ o ++ F (decide (j = 0)) j = T ∧ Below w.heap.size w wr

set_option maxRecDepth 100000 in
set_option maxHeartbeats 4000000 in
theorem refJText_any (f : Nat) : ∀ (v : JV) (cs : List Value) (w : World) (B : Nat), count v ≤ f → count v ≤ 1000000 → Fine v → B ≤ w.heap.size → VIn w B v cs →
    Calls Tryd.prog 25 #[.agg cs.toArray] w fun e w' => e = .returned (str (jtext v)) ∧ Below w.heap.size w w' := by
  induction f with
  | zero => intro v cs w B h; cases v; simp [count] at h
  | succ f ih =>
    intro v cs w B hf hm hfine hB hv
    have hsm := VIn.small _ _ hv
    have hbd := jtext_bd v hsm
    cases v with
    | mk k n t ks ps =>
    unfold Fine at hfine
    obtain ⟨ha, hfs⟩ := hfine
    obtain ⟨_, hk1, hk7, hobj, hn1, hn2, hu⟩ := alone_facts ha
    unfold VIn at hv
    obtain ⟨Ak, ck, Ap, cp, pc, rfl, _, _, ht, hks, hps, hkl, hck, hcp, hh1, hh2, hpin⟩ := hv
    have Hf := Lib.hid hf
    have Hm := Lib.hid hm
    have Hbd := Lib.hid hbd
    have Hobj := Lib.hid hobj
    have Hsm := Lib.hid hsm
    clear hf hbd hobj hm hsm
    have HW := Lib.hid (show Below w.heap.size w (w.alloc (.cells #[.int .i64 k, .int .i64 n, str t, .slice Ak ks.length ck, .slice Ap ps.length cp] 25)) from (Below.refl _ _).alloc (Nat.le_refl _) _)
    rcases (by omega : k = 1 ∨ k = 2 ∨ k = 3 ∨ k = 4 ∨ k = 5 ∨ k = 6 ∨ k = 7) with rfl | rfl | rfl | rfl | rfl | rfl | rfl
    · have H := Lib.hid (show jtext (.mk 1 n t ks ps) = tNull by rw [jtext]; rfl)
      go_enter Tryd.func25, Tryd.ntmps25
      go_wp2_with fail
      go_ret
      exact ⟨by rw [H.out]; rfl, HW.out⟩
    · have H := Lib.hid (show jtext (.mk 2 n t ks ps) = tFalse by rw [jtext]; rfl)
      go_enter Tryd.func25, Tryd.ntmps25
      go_wp2_with fail
      go_ret
      exact ⟨by rw [H.out]; rfl, HW.out⟩
    · have H := Lib.hid (show jtext (.mk 3 n t ks ps) = tTrue by rw [jtext]; rfl)
      go_enter Tryd.func25, Tryd.ntmps25
      go_wp2_with fail
      go_ret
      exact ⟨by rw [H.out]; rfl, HW.out⟩
    · have H := Lib.hid (show jtext (.mk 4 n t ks ps) = Lib.itoa n by rw [jtext]; rfl)
      go_enter Tryd.func25, Tryd.ntmps25
      go_wp2_with fail
      refine (numText_any n _ (by omega) (by omega)).mono ?_
      rintro e w3 ⟨rfl, hb3⟩
      go_wp2_with fail
      go_ret
      exact ⟨by rw [H.out]; rfl, HW.out.trans (hb3.mono HW.out.size)⟩
    · have H := Lib.hid (show jtext (.mk 5 n t ks ps) = quo t by rw [jtext]; rfl)
      go_enter Tryd.func25, Tryd.ntmps25
      go_wp2_with fail
      refine (quoted_any t _ ht).mono ?_
      rintro e w3 ⟨rfl, hb3⟩
      go_wp2_with fail
      go_ret
      exact ⟨by rw [H.out]; rfl, HW.out.trans (hb3.mono HW.out.size)⟩
    · have H := Lib.hid (show jtext (.mk 6 n t ks ps) = 91 :: (jarr true ps ++ [93]) by rw [jtext]; rfl)
      have hbA0 := Blk.new w 25 #[.int .i64 6, .int .i64 n, str t, .slice Ak ks.length ck, .slice Ap ps.length cp]
      have HbA := Lib.hid hbA0
      clear hbA0
      go_enter Tryd.func25, Tryd.ntmps25
      go_wp2_with fail
      have hW := HW.out
      have hbA := HbA.out
      have hszW : (w.alloc (.cells #[.int .i64 6, .int .i64 n, str t, .slice Ak ks.length ck, .slice Ap ps.length cp] 25)).heap.size = w.heap.size + 1 := by simp
      generalize (w.alloc (.cells #[.int .i64 6, .int .i64 n, str t, .slice Ak ks.length ck, .slice Ap ps.length cp] 25)) = W0 at *
      clear HW HbA
      have htot : (jarr true ps).length ≤ 13000000000000 := by
        have h1 := Hbd.out; have h2 := Hm.out
        rw [H.out] at h1
        simp only [List.length_cons, List.length_append] at h1; omega
      have Htot := Lib.hid htot
      clear htot
      go_loopg [3, 27] ps.length (RtA (jarr true ps) (fun b j => jarr b (ps.drop j)) ps.length W0)
      case atStart => exact ⟨0, [], rfl, rfl, by omega, by omega, by simp, Below.refl _ _⟩
      case round =>
        obtain ⟨j, o, rfl, rfl, hj, hgj, ho, hbw⟩ := hrel
        have Hgj := Lib.hid hgj
        have Ho := Lib.hid (show o ++ jarr (decide (j = 0)) (ps.drop j) = jarr true ps from ho)
        have hol : o.length ≤ 13000000000000 := by have h1 := Htot.out; rw [← ho, List.length_append] at h1; omega
        clear hgj ho
        have hwr : Below w.heap.size w wr := hW.trans (hbw.mono hW.size)
        have hszr := hwr.size
        have hbwz := hbw.size
        have hbAr := hbA.below hbw (by omega)
        have a0 : wr.cell? ⟨w.heap.size, 0, none⟩ = some (.int .i64 6) := hbAr.cell 0
        have a3 : wr.cell? ⟨w.heap.size, 3, none⟩ = some (.slice Ak ks.length ck) := hbAr.cell 3
        have hwlt : w.heap.size < wr.heap.size := by omega
        by_cases hlt : j < ps.length
        · obtain ⟨b, off, k2, n2, t2, Ak2, nk2, ck2, Ap2, np2, cp2, rfl, hb, hv, c0, c1, c2, c3, c4⟩ := part_cells (hh2.below (hwr.mono hB)) (hpin.below (hwr.mono hB)) j hlt
          have hd := jarr_drop (decide (j = 0)) ps j hlt
          have hcp1 := count_part2 j hlt
          have hcf : count ps[j] ≤ f := by have := Hf.out; simp only [count] at this; omega
          have hcm : count ps[j] ≤ 1000000 := by have := Hm.out; simp only [count] at this; omega
          have hfp := fines_mem2 hfs (List.getElem_mem hlt)
          have hpart : ∀ W, Below w.heap.size w W → VIn W B ps[j] [.int .i64 k2, .int .i64 n2, str t2, .slice Ak2 nk2 ck2, .slice Ap2 np2 cp2] → Calls Tryd.prog 25 #[.agg #[.int .i64 k2, .int .i64 n2, str t2, .slice Ak2 nk2 ck2, .slice Ap2 np2 cp2]] W fun e w' => e = .returned (str (jtext ps[j])) ∧ Below W.heap.size W w' :=
            fun W hbW hvW => ih ps[j] _ W B hcf hcm hfp (Nat.le_trans hB hbW.size) hvW
          have Hih := Lib.hid hpart
          have Hnew := Lib.hid (show o ++ (sep (decide (j = 0)) ++ jtext ps[j]) ++ jarr false (ps.drop (j + 1)) = jarr true ps by rw [← Ho.out, hd]; simp)
          have hnl : (o ++ (sep (decide (j = 0)) ++ jtext ps[j])).length ≤ 13000000000000 := by
            have h1 := Htot.out; rw [← Hnew.out, List.length_append] at h1; omega
          have hB2 := hwr.alloc hszr (.cells #[.int .i64 k2, .int .i64 n2, str t2, .slice Ak2 nk2 ck2, .slice Ap2 np2 cp2] 25)
          have hbox := Blk.new wr 25 #[.int .i64 k2, .int .i64 n2, str t2, .slice Ak2 nk2 ck2, .slice Ap2 np2 cp2]
          have hv2 : VIn (wr.alloc (.cells #[.int .i64 k2, .int .i64 n2, str t2, .slice Ak2 nk2 ck2, .slice Ap2 np2 cp2] 25)) B ps[j] [.int .i64 k2, .int .i64 n2, str t2, .slice Ak2 nk2 ck2, .slice Ap2 np2 cp2] :=
            VIn.kept (fun p hp => World.cell?_alloc_lt _ _ p (by omega)) _ _ hv
          have hbl2 : Below W0.heap.size W0 (wr.alloc (.cells #[.int .i64 k2, .int .i64 n2, str t2, .slice Ak2 nk2 ck2, .slice Ap2 np2 cp2] 25)) := hbw.alloc hbwz _
          clear hpart hd Ho hcp1 hcf hcm hfp hv hbAr
          generalize jtext ps[j] = X at *
          generalize ps[j] = pj at *
          by_cases hj0 : j = 0
          · subst hj0
            have y0 : wr.cell? ⟨b, off, none⟩ = some (.int .i64 k2) := by simpa using c0
            have y1 : wr.cell? ⟨b, off + 1, none⟩ = some (.int .i64 n2) := by simpa using c1
            have y2 : wr.cell? ⟨b, off + 2, none⟩ = some (str t2) := by simpa using c2
            have y3 : wr.cell? ⟨b, off + 3, none⟩ = some (.slice Ak2 nk2 ck2) := by simpa using c3
            have y4 : wr.cell? ⟨b, off + 4, none⟩ = some (.slice Ap2 np2 cp2) := by simpa using c4
            have d5 := run_str_addL (P := Tryd.prog) 9 o X (by simp [sep] at hnl ⊢; omega)
            go_wp2_with fail
            refine (Hih.out _ hB2 hv2).mono ?_
            rintro e w3 ⟨rfl, hb3⟩
            go_wp2_with fail
            go_roundg (ps.length - 1)
            case measure => have := Hgj.out; omega
            case rel => exact ⟨1, o ++ X, rfl, rfl, by omega, rfl, by show _ ++ jarr (decide (1 = 0)) _ = _; rw [decide_eq_false (by omega)]; have h1 := Hnew.out; simp [sep] at h1 ⊢; exact h1, hbl2.trans (hb3.mono hbl2.size)⟩
          · have hj1 : 0 < j := by omega
            have hj1' : (0 : Int) < (j : Int) := by omega
            have hsepf : sep (decide (j = 0)) = [44] := by rw [decide_eq_false hj0]; rfl
            have Hsepf := Lib.hid hsepf
            rw [hsepf] at hnl
            clear hsepf hj0
            have d4 := run_str_addL (P := Tryd.prog) 9 o [44] (by simp; omega)
            generalize hoc : o ++ [44] = oc at *
            have Hoc := Lib.hid hoc
            have hocl : oc.length + X.length ≤ 14000000000000 := by rw [← hoc]; simp at hnl ⊢; omega
            clear hoc
            have d5 := run_str_addL (P := Tryd.prog) 9 oc X (by omega)
            go_wp2_with fail
            refine (Hih.out _ hB2 hv2).mono ?_
            rintro e w3 ⟨rfl, hb3⟩
            go_wp2_with fail
            go_roundg (ps.length - (j + 1))
            case measure => have := Hgj.out; omega
            case rel => exact ⟨j + 1, oc ++ X, rfl, by go_num, by omega, rfl, by show _ ++ jarr (decide (j + 1 = 0)) _ = _; rw [decide_eq_false (by omega)]; have h1 := Hnew.out; rw [Hsepf.out] at h1; rw [← Hoc.out]; simp at h1 ⊢; exact h1, hbl2.trans (hb3.mono hbl2.size)⟩
        · have Hfin := Lib.hid (show o = jarr true ps by have h1 := Ho.out; rw [List.drop_eq_nil_of_le (by omega)] at h1; simpa [jarr] using h1)
          have d1 := run_str_addL (P := Tryd.prog) 9 [91] o (by simp; omega)
          have d2 := run_str_addL (P := Tryd.prog) 9 ([91] ++ o) [93] (by simp; omega)
          generalize hz1 : ([91] ++ o ++ [93] : List UInt8) = z1 at *
          generalize hz2 : ([91] ++ o : List UInt8) = z2 at *
          have Hz1 := Lib.hid hz1
          have Hz2 := Lib.hid hz2
          clear hz1 hz2
          go_wp2_with fail
          go_ret
          exact ⟨by rw [H.out, ← Hz1.out, ← Hz2.out, Hfin.out]; simp, hwr⟩
    · have H := Lib.hid (show jtext (.mk 7 n t ks ps) = 123 :: (jobj true ks ps ++ [125]) by rw [jtext]; rfl)
      have hbA0 := Blk.new w 25 #[.int .i64 7, .int .i64 n, str t, .slice Ak ks.length ck, .slice Ap ps.length cp]
      have HbA := Lib.hid hbA0
      clear hbA0
      obtain ⟨hkp, _⟩ := Hobj.out rfl
      have Hkp := Lib.hid hkp
      clear hkp
      go_enter Tryd.func25, Tryd.ntmps25
      go_wp2_with fail
      have hW := HW.out
      have hbA := HbA.out
      have hszW : (w.alloc (.cells #[.int .i64 7, .int .i64 n, str t, .slice Ak ks.length ck, .slice Ap ps.length cp] 25)).heap.size = w.heap.size + 1 := by simp
      generalize (w.alloc (.cells #[.int .i64 7, .int .i64 n, str t, .slice Ak ks.length ck, .slice Ap ps.length cp] 25)) = W0 at *
      clear HW HbA
      have htot : (jobj true ks ps).length ≤ 13000000000000 := by
        have h1 := Hbd.out; have h2 := Hm.out
        rw [H.out] at h1
        simp only [List.length_cons, List.length_append] at h1; omega
      have Htot := Lib.hid htot
      clear htot
      go_loopg [3, 27] ps.length (RtA (jobj true ks ps) (fun b j => jobj b (ks.drop j) (ps.drop j)) ps.length W0)
      case atStart => exact ⟨0, [], rfl, rfl, by omega, by omega, by simp, Below.refl _ _⟩
      case round =>
        obtain ⟨j, o, rfl, rfl, hj, hgj, ho, hbw⟩ := hrel
        have Hgj := Lib.hid hgj
        have Ho := Lib.hid (show o ++ jobj (decide (j = 0)) (ks.drop j) (ps.drop j) = jobj true ks ps from ho)
        have hol : o.length ≤ 13000000000000 := by have h1 := Htot.out; rw [← ho, List.length_append] at h1; omega
        clear hgj ho
        have hwr : Below w.heap.size w wr := hW.trans (hbw.mono hW.size)
        have hszr := hwr.size
        have hbwz := hbw.size
        have hbAr := hbA.below hbw (by omega)
        have a0 : wr.cell? ⟨w.heap.size, 0, none⟩ = some (.int .i64 7) := hbAr.cell 0
        have a3 : wr.cell? ⟨w.heap.size, 3, none⟩ = some (.slice Ak ks.length ck) := hbAr.cell 3
        have hwlt : w.heap.size < wr.heap.size := by omega
        by_cases hlt : j < ps.length
        · obtain ⟨b, off, k2, n2, t2, Ak2, nk2, ck2, Ap2, np2, cp2, rfl, hb, hv, c0, c1, c2, c3, c4⟩ := part_cells (hh2.below (hwr.mono hB)) (hpin.below (hwr.mono hB)) j hlt
          have hltk : j < ks.length := by have := Hkp.out; omega
          obtain ⟨bk, offk, hlk, rfl, hbk, hck2⟩ := (hh1.below (hwr.mono hB)).str hltk
          have hkl1 := hkl _ (List.getElem_mem hltk)
          have hbkl : bk < wr.heap.size := by omega
          have hjk9 : (j : Int) < (ks.length : Int) := by omega
          have hd := jobj_drop (decide (j = 0)) ks ps j hltk hlt
          have hcp1 := count_part2 j hlt
          have hcf : count ps[j] ≤ f := by have := Hf.out; simp only [count] at this; omega
          have hcm : count ps[j] ≤ 1000000 := by have := Hm.out; simp only [count] at this; omega
          have hfp := fines_mem2 hfs (List.getElem_mem hlt)
          have hpart : ∀ W, Below w.heap.size w W → VIn W B ps[j] [.int .i64 k2, .int .i64 n2, str t2, .slice Ak2 nk2 ck2, .slice Ap2 np2 cp2] → Calls Tryd.prog 25 #[.agg #[.int .i64 k2, .int .i64 n2, str t2, .slice Ak2 nk2 ck2, .slice Ap2 np2 cp2]] W fun e w' => e = .returned (str (jtext ps[j])) ∧ Below W.heap.size W w' :=
            fun W hbW hvW => ih ps[j] _ W B hcf hcm hfp (Nat.le_trans hB hbW.size) hvW
          have Hih := Lib.hid hpart
          have Hnew := Lib.hid (show o ++ (sep (decide (j = 0)) ++ (quo ks[j] ++ ([58] ++ jtext ps[j]))) ++ jobj false (ks.drop (j + 1)) (ps.drop (j + 1)) = jobj true ks ps by rw [← Ho.out, hd]; simp)
          have hnl : (o ++ (sep (decide (j = 0)) ++ (quo ks[j] ++ ([58] ++ jtext ps[j])))).length ≤ 13000000000000 := by
            have h1 := Htot.out; rw [← Hnew.out, List.length_append] at h1; omega
          have hB2 := hwr.alloc hszr (.cells #[.int .i64 k2, .int .i64 n2, str t2, .slice Ak2 nk2 ck2, .slice Ap2 np2 cp2] 25)
          have hbox := Blk.new wr 25 #[.int .i64 k2, .int .i64 n2, str t2, .slice Ak2 nk2 ck2, .slice Ap2 np2 cp2]
          have hv2 : VIn (wr.alloc (.cells #[.int .i64 k2, .int .i64 n2, str t2, .slice Ak2 nk2 ck2, .slice Ap2 np2 cp2] 25)) B ps[j] [.int .i64 k2, .int .i64 n2, str t2, .slice Ak2 nk2 ck2, .slice Ap2 np2 cp2] :=
            VIn.kept (fun p hp => World.cell?_alloc_lt _ _ p (by omega)) _ _ hv
          have hbl2 : Below W0.heap.size W0 (wr.alloc (.cells #[.int .i64 k2, .int .i64 n2, str t2, .slice Ak2 nk2 ck2, .slice Ap2 np2 cp2] 25)) := hbw.alloc hbwz _
          clear hpart hd Ho hcp1 hcf hcm hfp hv hbAr
          generalize jtext ps[j] = X at *
          generalize ps[j] = pj at *
          generalize hQ : quo ks[j] = Q at *
          generalize ks[j] = key at *
          have HQ := Lib.hid hQ
          clear hQ
          have hbx2 := hbA.below hbl2 (by omega)
          have hbox2 := hbox
          by_cases hj0 : j = 0
          · subst hj0
            have y0 : wr.cell? ⟨b, off, none⟩ = some (.int .i64 k2) := by simpa using c0
            have y1 : wr.cell? ⟨b, off + 1, none⟩ = some (.int .i64 n2) := by simpa using c1
            have y2 : wr.cell? ⟨b, off + 2, none⟩ = some (str t2) := by simpa using c2
            have y3 : wr.cell? ⟨b, off + 3, none⟩ = some (.slice Ak2 nk2 ck2) := by simpa using c3
            have y4 : wr.cell? ⟨b, off + 4, none⟩ = some (.slice Ap2 np2 cp2) := by simpa using c4
            have yk : wr.cell? ⟨bk, offk, none⟩ = some (str key) := by simpa using hck2
            have d1 := run_str_addL (P := Tryd.prog) 9 Q [58] (by simp [sep] at hnl ⊢; omega)
            have d2 := run_str_addL (P := Tryd.prog) 9 o (Q ++ [58]) (by simp [sep] at hnl ⊢; omega)
            have d3 := run_str_addL (P := Tryd.prog) 9 (o ++ (Q ++ [58])) X (by simp [sep] at hnl ⊢; omega)
            generalize hq2 : o ++ (Q ++ [58]) = oq at *
            generalize hq1 : Q ++ [58] = q1 at *
            have Hq2 := Lib.hid hq2
            have Hq1 := Lib.hid hq1
            clear hq1 hq2
            go_wp2_with fail
            refine (quoted_any key _ hkl1).mono ?_
            rintro e w3 ⟨rfl, hb3⟩
            rw [HQ.out]
            have hw3 := hB2.trans (hb3.mono hB2.size)
            have hbl3 := hbl2.trans (hb3.mono hbl2.size)
            have hbox3 := hbox.below hb3 (by simp)
            obtain ⟨r0, r1, r2, r3, r4, _, _, _, _, _⟩ := box_facts2 hbox3
            have hv3 := hv2.below (hb3.mono (by simp; omega))
            go_wp2_with fail
            refine (Hih.out _ hw3 hv3).mono ?_
            rintro e w4 ⟨rfl, hb4⟩
            go_wp2_with fail
            go_roundg (ps.length - 1)
            case measure => have := Hgj.out; omega
            case rel => exact ⟨1, oq ++ X, rfl, rfl, by omega, rfl, by show _ ++ jobj (decide (1 = 0)) _ _ = _; rw [decide_eq_false (by omega)]; have h1 := Hnew.out; rw [← Hq2.out, ← Hq1.out]; simp [sep] at h1 ⊢; exact h1, hbl3.trans (hb4.mono hbl3.size)⟩
          · have hj1 : 0 < j := by omega
            have hj1' : (0 : Int) < (j : Int) := by omega
            have hsepf : sep (decide (j = 0)) = [44] := by rw [decide_eq_false hj0]; rfl
            have Hsepf := Lib.hid hsepf
            rw [hsepf] at hnl
            clear hsepf hj0
            have d4 := run_str_addL (P := Tryd.prog) 9 o [44] (by simp; omega)
            generalize hoc : o ++ [44] = oc at *
            have Hoc := Lib.hid hoc
            have hnl' : oc.length + (Q.length + (1 + X.length)) ≤ 13000000000000 := by rw [← hoc]; simp at hnl ⊢; omega
            clear hoc
            have d1 := run_str_addL (P := Tryd.prog) 9 Q [58] (by simp; omega)
            have d2 := run_str_addL (P := Tryd.prog) 9 oc (Q ++ [58]) (by simp; omega)
            have d3 := run_str_addL (P := Tryd.prog) 9 (oc ++ (Q ++ [58])) X (by simp; omega)
            generalize hq2 : oc ++ (Q ++ [58]) = oq at *
            generalize hq1 : Q ++ [58] = q1 at *
            have Hq2 := Lib.hid hq2
            have Hq1 := Lib.hid hq1
            clear hq1 hq2
            go_wp2_with fail
            refine (quoted_any key _ hkl1).mono ?_
            rintro e w3 ⟨rfl, hb3⟩
            rw [HQ.out]
            have hw3 := hB2.trans (hb3.mono hB2.size)
            have hbl3 := hbl2.trans (hb3.mono hbl2.size)
            have hbox3 := hbox.below hb3 (by simp)
            obtain ⟨r0, r1, r2, r3, r4, _, _, _, _, _⟩ := box_facts2 hbox3
            have hv3 := hv2.below (hb3.mono (by simp; omega))
            go_wp2_with fail
            refine (Hih.out _ hw3 hv3).mono ?_
            rintro e w4 ⟨rfl, hb4⟩
            go_wp2_with fail
            go_roundg (ps.length - (j + 1))
            case measure => have := Hgj.out; omega
            case rel => exact ⟨j + 1, oq ++ X, rfl, by go_num, by omega, rfl, by show _ ++ jobj (decide (j + 1 = 0)) _ _ = _; rw [decide_eq_false (by omega)]; have h1 := Hnew.out; rw [Hsepf.out] at h1; rw [← Hq2.out, ← Hq1.out, ← Hoc.out]; simp at h1 ⊢; exact h1, hbl3.trans (hb4.mono hbl3.size)⟩
        · have Hfin := Lib.hid (show o = jobj true ks ps by have h1 := Ho.out; rw [List.drop_eq_nil_of_le (show ps.length ≤ j by omega)] at h1; simpa [jobj] using h1)
          have d1 := run_str_addL (P := Tryd.prog) 9 [123] o (by simp; omega)
          have d2 := run_str_addL (P := Tryd.prog) 9 ([123] ++ o) [125] (by simp; omega)
          generalize hz1 : ([123] ++ o ++ [125] : List UInt8) = z1 at *
          generalize hz2 : ([123] ++ o : List UInt8) = z2 at *
          have Hz1 := Lib.hid hz1
          have Hz2 := Lib.hid hz2
          clear hz1 hz2
          go_wp2_with fail
          go_ret
          exact ⟨by rw [H.out, ← Hz1.out, ← Hz2.out, Hfin.out]; simp, hwr⟩
end Go.Proofs.YtikjpniobihanaaDoor
