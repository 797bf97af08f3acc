/- seal.textAndPath: what the call returns. -/
import Derived.Test.YtbdbcffnjibjoaaGreatDoorSlText
import Derived.Test.YtbdbcffnjibjoaaGreatDoorNServ
namespace Go.Proofs.YtbdbcffnjibjoaaGreatDoor
set_option linter.unusedVariables false
set_option linter.unusedSimpArgs false
open Go.RowKit
attribute [local go_sem high] str_mk
def nameOk (u k : List UInt8) : Bool := (user u).isSome && (key k).isSome
/-- The error that Put and Check return ahead of all others. -/
def tapN (v : JV) (u k : List UInt8) : Int := if sTextN v ≠ 0 then sTextN v else if nameOk u k = true then 0 else 6
def tapV (v : JV) (u k : List UInt8) : Value := if tapN v u k = 0 then .tuple #[str (sTextL v), .agg #[str sigK, str u, str k], .int .i64 0] else .tuple #[str [], .agg #[str [], str [], str []], .int .i64 (tapN v u k)]
theorem tapN_zero {v : JV} {u k : List UInt8} (h : tapN v u k = 0) : sTextN v = 0 ∧ nameOk u k = true := by
  unfold tapN at h
  by_cases h1 : sTextN v = 0
  · rw [if_neg (by simpa using h1)] at h
    by_cases h2 : nameOk u k = true
    · exact ⟨h1, h2⟩
    · rw [if_neg h2] at h; cases h
  · rw [if_pos h1] at h; exact absurd h h1
theorem nameOk_len {u k : List UInt8} (h : nameOk u k = true) : u.length ≤ 100 ∧ k.length ≤ 100 := by
  have fl : ∀ s : List UInt8, s.length ≤ (fore s).length + (aft s).length + 1 := by
    intro s
    have h1 := List.takeWhile_append_dropWhile (p := (· != (58 : UInt8))) (l := s)
    have h2 := congrArg List.length h1
    simp only [List.length_append] at h2
    simp only [fore, aft, List.length_drop]; omega
  have tw : ∀ (p q : List UInt8 → Bool) (s : List UInt8), (∀ x, p x = true → x.length ≤ 20) → (∀ x, q x = true → x.length ≤ 20) → (two p q s).isSome = true → s.length ≤ 41 := by
    intro p q s hp hq h
    unfold two at h
    by_cases hc : (p (fore s) && q (aft s)) = true
    · rw [Bool.and_eq_true] at hc
      have := fl s
      have h1 := hp _ hc.1
      have h2 := hq _ hc.2
      omega
    · rw [if_neg hc] at h; cases h
  have nm : ∀ (p : UInt8 → Bool) (x : List UInt8), isNm p x = true → x.length ≤ 20 := fun p x hx => (isNm_len hx).2.1
  simp only [nameOk, Bool.and_eq_true] at h
  refine ⟨?_, ?_⟩
  · have hu := h.1
    unfold user at hu
    split at hu
    · rename_i r
      have := tw loc srv r (fun x hx => nm _ x hx) (fun x hx => nm _ x (srv_isNm hx)) hu
      simp; omega
    · cases hu
  · have := tw knd idn k (fun x hx => nm _ x hx) (fun x hx => nm _ x hx) h.2
    omega
def errOf (o : Option (List UInt8 × List UInt8)) : Int := if o.isSome = true then 0 else 4
theorem pairV_form (o : Option (List UInt8 × List UInt8)) : ∃ a b, pairV o = .tuple #[str a, str b, .int .i64 (errOf o)] := by
  cases o with
  | none => exact ⟨[], [], rfl⟩
  | some x => exact ⟨x.1, x.2, rfl⟩
theorem ret_path {fn : Func} {R : Ending → World → Prop} {a : Act} {W : World} {g : Nat} {s0 s1 s2 : Tmp} {k b x0 x1 x2 : Value}
    (hf : fn.results = #[.tmp s0, .cell s1 32, .tmp s2]) (h0 : a.tmps.getD s0 undef = k) (h1 : a.tmps.getD s1 undef = .pointer (some ⟨g, 0, none⟩)) (h2 : a.tmps.getD s2 undef = b)
    (hb : Blk W g 32 #[x0, x1, x2]) (hd : a.defers = []) (hR : R (.returned (.tuple #[k, .agg #[x0, x1, x2], b])) W) : bodyPost Tryz.prog fn R .ret a W := by
  refine bodyPost_ret ?_ hd hR
  have c0 : W.cell? ⟨g, 0, none⟩ = some x0 := hb.cell 0
  have c1 : W.cell? ⟨g, 1, none⟩ = some x1 := hb.cell 1
  have c2 : W.cell? ⟨g, 2, none⟩ = some x2 := hb.cell 2
  simp only [Array.getD_eq_getD_getElem?] at h0 h1 h2
  simp [results, hf, h0, h1, h2, go_sem, c0, c1, c2]
theorem sl_set3 {w : World} {g : Nat} {t : TypeId} {a0 a1 a2 : Value} (h : Blk w g t #[a0, a1, a2]) (b0 b1 b2 : Value) : Blk (((w.setCell ⟨g, 0, none⟩ b0).setCell ⟨g, 1, none⟩ b1).setCell ⟨g, 2, none⟩ b2) g t #[b0, b1, b2] :=
  ((h.set_ 0 b0).set_ 1 b1).set_ 2 b2
theorem sl_below3 {a w : World} {B g' : Nat} (h : Below B a w) (hg : B ≤ g') (b0 b1 b2 : Value) : Below B a (((w.setCell ⟨g', 0, none⟩ b0).setCell ⟨g', 1, none⟩ b1).setCell ⟨g', 2, none⟩ b2) :=
  ((h.setCell hg _).setCell hg _).setCell hg _
theorem sl_box3 {w : World} {g : Nat} {t : TypeId} {a0 a1 a2 : Value} (h : Blk w g t #[a0, a1, a2]) :
    w.cell? ⟨g, 0, none⟩ = some a0 ∧ w.cell? ⟨g, 1, none⟩ = some a1 ∧ w.cell? ⟨g, 2, none⟩ = some a2 ∧ w.frozen? ⟨g, 0, none⟩ = false ∧ w.frozen? ⟨g, 1, none⟩ = false ∧ w.frozen? ⟨g, 2, none⟩ = false :=
  ⟨h.cell 0, h.cell 1, h.cell 2, h.frozen 0, h.frozen 1, h.frozen 2⟩

set_option maxRecDepth 100000 in
set_option maxHeartbeats 2000000 in
theorem textAndPath_any (v : JV) (cs : List Value) (u k : List UInt8) (w : World) (B : Nat) (hB : B ≤ w.heap.size) (hv : VIn w B v cs) (htab : Tab w.heap.size w) (hgl : Gl w) (hcnt : count v ≤ 1073741824) (hu : u.length ≤ maxLen) (hk : k.length ≤ maxLen) :
    Calls Tryz.prog 7 #[.agg cs.toArray, str u, str k] w fun e w' => e = .returned (tapV v u k) ∧ Below w.heap.size w w' := by
  obtain ⟨kd, n, t, Ak, nk, ck, Ap, np, cp, rfl⟩ := hv.form
  have HW := Lib.hid (show Below w.heap.size w ((w.alloc (.cells #[.int .i64 kd, .int .i64 n, str t, .slice Ak nk ck, .slice Ap np cp] 25)).alloc (.cells #[str [], str [], str []] 32)) from
    ((Below.refl _ _).alloc (Nat.le_refl _) _).alloc (by simp) _)
  have b2 := Blk.new (w.alloc (.cells #[.int .i64 kd, .int .i64 n, str t, .slice Ak nk ck, .slice Ap np cp] 25)) 32 #[str [], str [], str []]
  rw [show (w.alloc (.cells #[.int .i64 kd, .int .i64 n, str t, .slice Ak nk ck, .slice Ap np cp] 25)).heap.size = w.heap.size + 1 by simp] at b2
  have H2 := Lib.hid b2
  clear b2
  go_enter Tryz.func7, Tryz.ntmps7
  go_wp2_with fail
  refine (sealText_any v _ _ B (Nat.le_trans hB HW.out.size) (hv.below (HW.out.mono hB)) (htab.on HW.out).here hcnt).mono ?_
  rintro e w1 ⟨rfl, hb1⟩
  have hw1 : Below w.heap.size w w1 := HW.out.trans (hb1.mono HW.out.size)
  have hp1 := H2.out.below hb1 (by simp)
  have hgl1 : Gl w1 := hgl.below hw1
  by_cases hN : sTextN v = 0
  · have HN := Lib.hid hN
    have HL := Lib.hid (sText_facts hN).2.2.1
    rw [sTextR_ok hN]
    clear hN
    go_wp2_with fail
    refine (user_any u _ hu hgl1).mono ?_
    rintro e w2 ⟨rfl, hb2⟩
    obtain ⟨ua, ub, hua⟩ := pairV_form (user u)
    rw [hua]
    clear hua
    go_wp2_with fail
    refine (key_any k _ hk (hgl1.below hb2)).mono ?_
    rintro e w3 ⟨rfl, hb3⟩
    obtain ⟨ka, kb, hka⟩ := pairV_form (key k)
    rw [hka]
    clear hka
    have hw3 : Below w.heap.size w w3 := (hw1.trans (hb2.mono hw1.size)).trans (hb3.mono (Nat.le_trans hw1.size hb2.size))
    have hp3 := (hp1.below hb2 hp1.lt).below hb3 (hp1.below hb2 hp1.lt).lt
    obtain ⟨c0, c1, c2, f0, f1, f2⟩ := sl_box3 hp3
    by_cases h1 : (user u).isSome = true
    · have e1 : errOf (user u) = 0 := by unfold errOf; rw [if_pos h1]
      rw [e1]
      by_cases h2 : (key k).isSome = true
      · have e2 : errOf (key k) = 0 := by unfold errOf; rw [if_pos h2]
        rw [e2]
        have HT := Lib.hid (show tapN v u k = 0 by unfold tapN; rw [if_neg (by simp [HN.out]), if_pos (by simp [nameOk, h1, h2])])
        clear e1 e2 h1 h2
        go_wp2_with fail
        refine ret_path (by rfl) (by rfl) (by rfl) (by rfl) (sl_set3 hp3 _ _ _) (by rfl) ?_
        exact ⟨by unfold tapV; rw [if_pos HT.out, HL.out]; rfl, sl_below3 hw3 (by omega) _ _ _⟩
      · have e2 : errOf (key k) = 4 := by unfold errOf; rw [if_neg h2]
        rw [e2]
        have HT := Lib.hid (show tapN v u k = 6 by unfold tapN; rw [if_neg (by simp [HN.out]), if_neg (by simp [nameOk, h1, h2])])
        clear e1 e2 h1 h2
        go_wp2_with fail
        refine ret_path (by rfl) (by rfl) (by rfl) (by rfl) (sl_set3 hp3 _ _ _) (by rfl) ?_
        exact ⟨by unfold tapV; rw [HT.out, if_neg (by omega)]; rfl, sl_below3 hw3 (by omega) _ _ _⟩
    · have e1 : errOf (user u) = 4 := by unfold errOf; rw [if_neg h1]
      rw [e1]
      have HT := Lib.hid (show tapN v u k = 6 by unfold tapN; rw [if_neg (by simp [HN.out]), if_neg (by simp [nameOk, h1])])
      clear e1 h1
      generalize errOf (key k) = ek at *
      go_wp2_with fail
      refine ret_path (by rfl) (by rfl) (by rfl) (by rfl) (sl_set3 hp3 _ _ _) (by rfl) ?_
      exact ⟨by unfold tapV; rw [HT.out, if_neg (by omega)]; rfl, sl_below3 hw3 (by omega) _ _ _⟩
  · have HT := Lib.hid (show tapN v u k = sTextN v by unfold tapN; rw [if_pos hN])
    rw [sTextR_no rfl hN]
    have HN := Lib.hid hN
    generalize sTextN v = a at *
    have hab : (a != 0) = true := by simpa using hN
    obtain ⟨c0, c1, c2, f0, f1, f2⟩ := sl_box3 hp1
    go_wp2_with fail
    refine ret_path (by rfl) (by rfl) (by rfl) (by rfl) (sl_set3 hp1 _ _ _) (by rfl) ?_
    exact ⟨by unfold tapV; rw [HT.out, if_neg HN.out]; rfl, sl_below3 hw1 (by omega) _ _ _⟩
end Go.Proofs.YtbdbcffnjibjoaaGreatDoor
