/- Device lists: what the statements on them rest on. Nothing of the program is named here. -/
import Derived.Test.YtmlgaedhfannmaaDvM
namespace Go.Proofs.Ytmlgaedhfannmaa
set_option linter.unusedVariables false
set_option linter.unusedSimpArgs false

/-- Played again, updates make themselves. -/
theorem playD_again : ∀ {l us : List Uc} {ds : List Rw} {vs : List Uc} {es : List Rw}, playD l us ds = (0, vs, es) → ∃ ws, vs = us ++ ws ∧ playD ws us ds = (0, vs, es)
  | [], us, ds, vs, es, h => by
    unfold playD at h
    injection h with _ h; injection h with h1 h2
    subst h1 h2
    exact ⟨[], by simp, rfl⟩
  | c :: l, us, ds, vs, es, h => by
    rw [playD] at h
    split at h
    · injection h with h _; cases h
    · rename_i hc
      split at h
      · exact playD_again h
      · rename_i he
        split at h
        · injection h with h _; cases h
        · rename_i h6
          obtain ⟨ws, h1, h2⟩ := playD_again h
          refine ⟨upd us.length c :: ws, by rw [h1]; simp, ?_⟩
          rw [playD, okU_upd, if_neg hc, eff_upd, if_neg he, rwU_upd, if_neg h6, upd_upd]
          exact h2
theorem playD_sets : ∀ {l us : List Uc} {ds : List Rw}, srt ds → (∀ r ∈ ds, r.val ≠ []) → (playD l us ds).1 = 0 → (playD l us ds).2.2 = sets ds (l.map rwU)
  | [], us, ds, _, _, _ => rfl
  | c :: l, us, ds, hs, hg, h => by
    rw [playD] at h ⊢
    rw [List.map_cons, sets_cons]
    split at h
    · cases h
    · rename_i hc
      rw [if_neg hc]
      split at h
      · rename_i he
        rw [if_pos he, playD_sets hs hg h, setR_same hs hg he]
      · rename_i he
        rw [if_neg he]
        split at h
        · cases h
        · rename_i h6
          rw [if_neg h6, playD_sets (srt_setR hs) (good_setR hg) h]
/-- Six devices. -/
def sixL : List (List UInt8) := [[97], [98], [99], [100], [101], [102]]
def Six (c : Uc) : Prop := okU c = true ∧ c.key ∈ sixL
theorem six_upd {n : Nat} {c : Uc} (h : Six c) : Six (upd n c) := ⟨by rw [okU_upd]; exact h.1, h.2⟩
theorem playD_fine : ∀ {l us : List Uc} {ds : List Rw}, (∀ c ∈ l, Six c) → srt ds → (∀ r ∈ ds, r.key ∈ sixL) → (playD l us ds).1 = 0
  | [], us, ds, _, _, _ => rfl
  | c :: l, us, ds, hl, hs, hd => by
    have hc := hl c (by simp)
    have hkeys : ∀ r ∈ setR (rwU c) ds, r.key ∈ sixL := fun r hr => by
      rcases mem_setR hr with h1 | ⟨rfl, _⟩
      · exact hd r h1
      · exact hc.2
    have h6 : ¬ 6 < (setR (rwU c) ds).length := by have := srt_len (srt_setR (c := rwU c) hs) hkeys; simp [sixL] at this; omega
    rw [playD, if_neg (by simp [hc.1])]
    split
    · exact playD_fine (fun x hx => hl x (by simp [hx])) hs hd
    · first | rw [if_neg h6] | skip
      exact playD_fine (fun x hx => hl x (by simp [hx])) (srt_setR hs) hkeys
/-- What is told of updates. -/
theorem playD_six : ∀ {l us : List Uc} {ds : List Rw}, (∀ c ∈ l, Six c) → (∀ c ∈ us, Six c) → ∀ u ∈ (playD l us ds).2.1, Six u
  | [], us, ds, _, hu, u, h => hu u h
  | c :: l, us, ds, hl, hu, u, h => by
    rw [playD] at h
    split at h
    · simp at h
    · split at h
      · exact playD_six (fun x hx => hl x (by simp [hx])) hu u h
      · split at h
        · simp at h
        · refine playD_six (fun x hx => hl x (by simp [hx])) (fun x hx => ?_) u h
          rcases List.mem_append.1 hx with h1 | h1
          · exact hu x h1
          · simp at h1; subst h1; exact six_upd (hl c (by simp))
/-- All of it for a list of six devices. -/
def upsD (l : List Uc) : List Uc := (playD l [] []).2.1
def tabD (l : List Uc) : List Rw := sets [] (l.map rwU)
theorem playL_six {l : List Uc} (h : ∀ c ∈ l, Six c) (hn : l.length ≤ 100) : playL l = (0, upsD l, tabD l) := by
  unfold playL
  rw [if_neg (by omega)]
  have h1 := playD_fine (us := []) h (ds := []) trivial (by simp)
  have h2 := playD_sets (us := []) (ds := []) (l := l) trivial (by simp) h1
  unfold upsD tabD
  rw [← h2, ← h1]
theorem upsD_six {l : List Uc} (h : ∀ c ∈ l, Six c) : ∀ u ∈ upsD l, Six u := playD_six h (by simp)
theorem upsD_ok (l : List Uc) : UsOk (upsD l) := (playD_ok usOk_nil dsOk_nil).1
theorem upsD_len (l : List Uc) : (upsD l).length ≤ l.length := by have := playD_len (l := l) (us := []) (ds := []); rw [List.length_nil, Nat.zero_add] at this; exact this
theorem upsD_again {l : List Uc} (h : ∀ c ∈ l, Six c) : upsD (upsD l) = upsD l ∧ tabD (upsD l) = tabD l := by
  have h1 := playD_fine (us := []) h (ds := []) trivial (by simp)
  have h2 : playD l [] [] = (0, upsD l, (playD l [] []).2.2) := by rw [← h1]; rfl
  obtain ⟨ws, hw, hp⟩ := playD_again h2
  rw [List.nil_append] at hw
  subst hw
  have e1 : (playD (upsD l) [] []).2.1 = upsD l := by rw [hp]
  refine ⟨e1, ?_⟩
  have h3 := playD_sets (us := []) (ds := []) (l := upsD l) trivial (by simp) (by rw [hp])
  have h4 := playD_sets (us := []) (ds := []) (l := l) trivial (by simp) h1
  unfold tabD
  rw [← h3, ← h4, hp]
theorem sets_good : ∀ {cs l : List Rw}, (∀ r ∈ l, r.val ≠ []) → ∀ r ∈ sets l cs, r.val ≠ []
  | [], l, h => h
  | c :: cs, l, h => by rw [sets_cons]; exact sets_good (good_setR h)
theorem tabD_srt (l : List Uc) : srt (tabD l) := srt_sets (cs := l.map rwU) (l := []) trivial
theorem tabD_good (l : List Uc) : ∀ r ∈ tabD l, r.val ≠ [] := sets_good (by simp)
theorem tabD_look (l : List Uc) (k : List UInt8) : look (tabD l) k = lastOf (l.map rwU) k [] := by
  unfold tabD; rw [look_sets (l := []) trivial]; rfl
theorem tabD_ext {l m : List Uc} (h : ∀ k, lastOf (l.map rwU) k [] = lastOf (m.map rwU) k []) : tabD l = tabD m :=
  look_ext (tabD_srt l) (tabD_srt m) (tabD_good l) (tabD_good m) fun k => by rw [tabD_look, tabD_look, h k]
theorem lastOf_app (k : List UInt8) : ∀ (a b : List Rw) (d : List UInt8), lastOf (a ++ b) k d = lastOf b k (lastOf a k d)
  | [], b, d => rfl
  | x :: a, b, d => by rw [List.cons_append, lastOf, lastOf, lastOf_app k a b]
theorem lastOf_any {k : List UInt8} : ∀ {l : List Uc} (d e : List UInt8), l.any (fun v => v.key == k) = true → lastOf (l.map rwU) k d = lastOf (l.map rwU) k e
  | [], d, e, h => by simp at h
  | u :: l, d, e, h => by
    rw [List.map_cons, lastOf, lastOf]
    by_cases hk : u.key = k
    · rw [if_pos (show (rwU u).key = k from hk), if_pos (show (rwU u).key = k from hk)]
    · rw [if_neg (show ¬ (rwU u).key = k from hk), if_neg (show ¬ (rwU u).key = k from hk)]
      exact lastOf_any d e (by simpa [hk] using h)
theorem lastOf_none {k : List UInt8} : ∀ {l : List Uc} (d : List UInt8), l.any (fun v => v.key == k) = false → lastOf (l.map rwU) k d = d
  | [], d, h => rfl
  | u :: l, d, h => by
    rw [List.any_cons, Bool.or_eq_false_iff] at h
    rw [List.map_cons, lastOf, if_neg (show ¬ (rwU u).key = k from fun e => by have h1 := h.1; rw [show u.key = k from e] at h1; simp at h1), lastOf_none d h.2]
theorem lastOf_ones (k : List UInt8) : ∀ (l : List Uc) (d : List UInt8), lastOf ((lastOnes l).map rwU) k d = lastOf (l.map rwU) k d
  | [], d => rfl
  | u :: l, d => by
    unfold lastOnes
    split
    · rename_i h
      rw [lastOf_ones k l d, List.map_cons, lastOf]
      split
      · rename_i e
        exact lastOf_any _ _ (by rw [← e]; exact h)
      · rfl
    · rw [List.map_cons, List.map_cons, lastOf, lastOf, lastOf_ones k l]
theorem lastOf_one : ∀ {l : List Uc} {u : Uc} (d : List UInt8), u ∈ lastOnes l → lastOf (l.map rwU) u.key d = vl u
  | [], u, d, h => by simp [lastOnes] at h
  | v :: l, u, d, h => by
    unfold lastOnes at h
    rw [List.map_cons, lastOf]
    split at h
    · exact lastOf_one _ h
    · rename_i hv
      rcases List.mem_cons.1 h with rfl | h
      · rw [lastOf_none _ (by simpa using hv), if_pos (show (rwU u).key = u.key from rfl)]; rfl
      · exact lastOf_one _ h
theorem ones_pw : ∀ (l : List Uc), (lastOnes l).Pairwise (fun a b => a.key ≠ b.key)
  | [] => by simp [lastOnes]
  | u :: l => by
    unfold lastOnes
    split
    · exact ones_pw l
    · rename_i h
      rw [List.pairwise_cons]
      refine ⟨fun b hb e => h ?_, ones_pw l⟩
      rw [List.any_eq_true]
      exact ⟨b, lastOnes_sub hb, by simp [e]⟩
theorem ones_subl : ∀ (l : List Uc), (lastOnes l).Sublist l
  | [] => by simp [lastOnes]
  | u :: l => by
    unfold lastOnes
    split
    · exact (ones_subl l).cons u
    · exact (ones_subl l).cons_cons u
/-- DevicesSince. -/
theorem since_tab {l : List Uc} (h : ∀ c ∈ l, Six c) (k : Nat) : tabD ((upsD l).take k ++ lastOnes ((upsD l).drop k)) = tabD l := by
  rw [← (upsD_again h).2]
  refine tabD_ext fun x => ?_
  rw [List.map_append, lastOf_app, lastOf_ones, ← lastOf_app, ← List.map_append, List.take_append_drop]
theorem since_six {l : List Uc} (h : ∀ c ∈ l, Six c) (k : Nat) : ∀ u ∈ (upsD l).take k ++ lastOnes ((upsD l).drop k), Six u := fun u hu => by
  rcases List.mem_append.1 hu with h1 | h1
  · exact upsD_six h u (List.mem_of_mem_take h1)
  · exact upsD_six h u (List.mem_of_mem_drop (lastOnes_sub h1))
theorem since_len (l : List Uc) (k : Nat) : ((upsD l).take k ++ lastOnes ((upsD l).drop k)).length ≤ l.length := by
  have h1 := lastOnes_len ((upsD l).drop k)
  have h2 := upsD_len l
  rw [List.length_append, List.length_take]
  rw [List.length_drop] at h1
  omega
theorem ups_pw (l : List Uc) : (upsD l).Pairwise (fun a b => a.st < b.st) := by
  rw [List.pairwise_iff_getElem]
  intro i j hi hj hij
  rw [((upsD_ok l).num i hi).1, ((upsD_ok l).num j hj).1]
  omega
theorem since_up (l : List Uc) (k : Nat) : (lastOnes ((upsD l).drop k)).Pairwise (fun a b => a.st < b.st) := by
  refine List.Pairwise.sublist (ones_subl _) (List.Pairwise.sublist (List.drop_sublist k _) (ups_pw l))
theorem since_st (l : List Uc) (k : Nat) : ∀ u ∈ lastOnes ((upsD l).drop k), (k : Int) < u.st := fun u hu => by
  obtain ⟨i, hi, rfl⟩ := List.getElem_of_mem (lastOnes_sub hu)
  rw [List.getElem_drop, ((upsD_ok l).num (k + i) (by simp at hi; omega)).1]
  omega
/-- DevicesTurn. -/
def cntD : List Uc → List Rw → Nat
  | [], _ => 0
  | c :: l, ds => (if eff ds c = true then 1 else 0) + cntD l (setR (rwU c) ds)
theorem playD_cnt : ∀ {l us : List Uc} {ds : List Rw}, srt ds → (∀ r ∈ ds, r.val ≠ []) → (playD l us ds).1 = 0 → (playD l us ds).2.1.length = us.length + cntD l ds
  | [], us, ds, _, _, _ => rfl
  | c :: l, us, ds, hs, hg, h => by
    rw [playD] at h ⊢
    rw [cntD]
    split at h
    · cases h
    · rename_i hc
      rw [if_neg hc]
      split at h
      · rename_i he
        rw [if_pos he, playD_cnt hs hg h, setR_same hs hg he, if_neg (by simp [he])]
        omega
      · rename_i he
        rw [if_neg he]
        split at h
        · cases h
        · rename_i h6
          rw [if_neg h6, playD_cnt (srt_setR hs) (good_setR hg) h, if_pos (by simpa using he)]
          simp; omega
theorem setR_swap {a b : Rw} {ds : List Rw} (hs : srt ds) (hg : ∀ r ∈ ds, r.val ≠ []) (hne : a.key ≠ b.key) : setR a (setR b ds) = setR b (setR a ds) := by
  refine look_ext (srt_setR (srt_setR hs)) (srt_setR (srt_setR hs)) (good_setR (good_setR hg)) (good_setR (good_setR hg)) fun k => ?_
  rw [look_setR (srt_setR hs), look_setR hs, look_setR (srt_setR hs), look_setR hs]
  by_cases h1 : a.key = k
  · rw [if_pos h1, if_neg (fun e => hne (h1.trans e.symm)), if_pos h1]
  · rw [if_neg h1, if_neg h1]
theorem eff_other {c d : Uc} {ds : List Rw} (hs : srt ds) (hne : c.key ≠ d.key) : eff (setR (rwU c) ds) d = eff ds d := by
  unfold eff
  rw [look_setR hs, if_neg (show ¬ (rwU c).key = d.key from hne)]
theorem cnt_swap {c d : Uc} {q : List Uc} (hne : c.key ≠ d.key) : ∀ {p : List Uc} {ds : List Rw}, srt ds → (∀ r ∈ ds, r.val ≠ []) → cntD (p ++ c :: d :: q) ds = cntD (p ++ d :: c :: q) ds
  | [], ds, hs, hg => by
    rw [List.nil_append, List.nil_append, cntD, cntD, cntD, cntD, eff_other hs hne, eff_other hs hne.symm, setR_swap hs hg (show (rwU d).key ≠ (rwU c).key from hne.symm)]
    omega
  | x :: p, ds, hs, hg => by
    rw [List.cons_append, List.cons_append, cntD, cntD, cnt_swap hne (srt_setR hs) (good_setR hg)]
theorem turn_len {p q : List Uc} {c d : Uc} (hne : c.key ≠ d.key) (h1 : ∀ x ∈ p ++ c :: d :: q, Six x) (h2 : ∀ x ∈ p ++ d :: c :: q, Six x) : (upsD (p ++ c :: d :: q)).length = (upsD (p ++ d :: c :: q)).length := by
  unfold upsD
  rw [playD_cnt (ds := []) trivial (by simp) (playD_fine (ds := []) h1 trivial (by simp)), playD_cnt (ds := []) trivial (by simp) (playD_fine (ds := []) h2 trivial (by simp)), cnt_swap hne (ds := []) trivial (by simp)]
theorem turn_tab {p q : List Uc} {c d : Uc} (hne : c.key ≠ d.key) : tabD (p ++ c :: d :: q) = tabD (p ++ d :: c :: q) := by
  unfold tabD
  rw [List.map_append, List.map_append, sets_app, sets_app, List.map_cons, List.map_cons, List.map_cons, List.map_cons, sets_cons, sets_cons, sets_cons, sets_cons,
    setR_swap (srt_sets (cs := p.map rwU) (l := []) trivial) (sets_good (by simp)) (show (rwU d).key ≠ (rwU c).key from hne.symm)]
/-- DevicesAll. -/
theorem all_in {l : List Uc} (h : ∀ c ∈ l, Six c) {u : Uc} (hu : u ∈ lastOnes (upsD l)) (hg : u.gone = false) : (⟨u.key, u.val⟩ : Rw) ∈ tabD l := by
  have h6 := upsD_six h u (lastOnes_sub hu)
  have hv : vl u = u.val := by unfold vl; rw [hg]; rfl
  have h1 : look (tabD l) u.key = u.val := by rw [← (upsD_again h).2, tabD_look, lastOf_one _ hu, hv]
  have h2 : u.val ≠ [] := by rw [← hv, Ne, vl_nil h6.1]; simp [hg]
  obtain ⟨r, hr, e1, e2⟩ := look_mem (l := tabD l) (k := u.key) (by rw [h1]; exact h2)
  rw [h1] at e2
  have : r = ⟨u.key, u.val⟩ := Rw.ext' e1 e2
  rw [← this]; exact hr
theorem all_len {l : List Uc} (h : ∀ c ∈ l, Six c) : ((lastOnes (upsD l)).filter (fun u => !u.gone)).length = (tabD l).length := by
  apply Nat.le_antisymm
  · have hn : (((lastOnes (upsD l)).filter (fun u => !u.gone)).map (·.key)).Nodup := by
      rw [List.Nodup, List.pairwise_map]
      exact List.Pairwise.sublist (List.filter_sublist) (ones_pw _)
    have := mem_len hn (m := (tabD l).map (·.key)) fun k hk => by
      obtain ⟨u, hu, rfl⟩ := List.mem_map.1 hk
      obtain ⟨hu1, hu2⟩ := List.mem_filter.1 hu
      exact List.mem_map.2 ⟨_, all_in h hu1 (by simpa using hu2), rfl⟩
    simpa using this
  · have := mem_len (srt_nodup (tabD_srt l)) (m := ((lastOnes (upsD l)).filter (fun u => !u.gone)).map (·.key)) fun k hk => by
      obtain ⟨r, hr, rfl⟩ := List.mem_map.1 hk
      have h1 := look_has (tabD_srt l) hr rfl
      have h2 := tabD_good l r hr
      rw [← (upsD_again h).2, tabD_look] at h1
      have h3 : (upsD l).any (fun v => v.key == r.key) = true := by
        cases ha : (upsD l).any (fun v => v.key == r.key) with
        | true => rfl
        | false => rw [lastOf_none _ ha] at h1; exact absurd h1.symm h2
      rw [← lastOnes_has] at h3
      obtain ⟨u, hu, e⟩ := List.any_eq_true.1 h3
      have e : u.key = r.key := by simpa using e
      rw [← e, lastOf_one _ hu] at h1
      refine List.mem_map.2 ⟨u, List.mem_filter.2 ⟨hu, ?_⟩, e⟩
      have h6 := upsD_six h u (lastOnes_sub hu)
      have : vl u ≠ [] := by rw [h1]; exact h2
      rw [Ne, vl_nil h6.1] at this
      simpa using this
    simpa using this
end Go.Proofs.Ytmlgaedhfannmaa
