/- Joined texts: DvM, DvRf, DvS. -/
import Derived.Test.YtmlgaedhfannmaaBunRA
import Derived.Test.YtmlgaedhfannmaaBunD
/- Device lists: what changes come to. Nothing of the program is named here. -/
namespace Go.Proofs.Ytmlgaedhfannmaa
set_option linter.unusedVariables false
set_option linter.unusedSimpArgs false

/-- A change, or an update. -/
structure Uc where
  st : Int
  pv : Int
  key : List UInt8
  val : List UInt8
  gone : Bool
def vl (c : Uc) : List UInt8 := if c.gone then [] else c.val
def rwU (c : Uc) : Rw := ⟨c.key, vl c⟩
def bodyOk (s : List UInt8) : Bool := !s.isEmpty && decide (s.length ≤ 20)
def okU (c : Uc) : Bool := loc c.key && (c.gone || bodyOk c.val)
/-- The update that a change makes behind n others. -/
def upd (n : Nat) (c : Uc) : Uc := ⟨(n : Int) + 1, n, c.key, vl c, c.gone⟩
/-- Does it have an effect? -/
def eff (ds : List Rw) (c : Uc) : Bool := !(look ds c.key == vl c)
/-- What changes come to behind others: a code, the updates, the list. -/
def playD : List Uc → List Uc → List Rw → Int × List Uc × List Rw
  | [], us, ds => (0, us, ds)
  | c :: l, us, ds =>
    if okU c = false then (4, [], []) else
    if eff ds c = false then playD l us ds else
    if 6 < (setR (rwU c) ds).length then (10, [], []) else playD l (us ++ [upd us.length c]) (setR (rwU c) ds)
def playL (l : List Uc) : Int × List Uc × List Rw := if 100 < l.length then (1, [], []) else playD l [] []
/-- Those that have no later one of the same device. -/
def lastOnes : List Uc → List Uc
  | [] => []
  | u :: l => if l.any (fun v => v.key == u.key) then lastOnes l else u :: lastOnes l
def sinceL (l : List Uc) (at_ : Int) : Int × List Uc :=
  if (playL l).1 ≠ 0 then ((playL l).1, []) else
  if at_ < 0 ∨ ((playL l).2.1.length : Int) < at_ then (2, []) else (0, lastOnes ((playL l).2.1.drop at_.toNat))

/-- A list of devices as changes leave it. -/
structure DlOk (ds : List Rw) : Prop where
  srt : srt ds
  good : ∀ r ∈ ds, r.val ≠ [] ∧ r.val.length ≤ 20 ∧ r.key.length ≤ 20
  few : ds.length ≤ 6
theorem dsOk_nil : DlOk [] := ⟨trivial, by simp, by simp⟩
theorem okU_key {c : Uc} (h : okU c = true) : loc c.key = true := by unfold okU at h; simp at h; exact h.1
theorem okU_len {c : Uc} (h : okU c = true) : c.key.length ≤ 20 := (isNm_len (okU_key h)).2.1
theorem vl_len {c : Uc} (h : okU c = true) : (vl c).length ≤ 20 := by
  unfold okU bodyOk at h; unfold vl
  cases hg : c.gone with
  | true => simp
  | false => rw [hg] at h; simp at h; simpa using h.2.2
theorem vl_gone {c : Uc} (h : okU c = true) : (vl c).isEmpty = c.gone := by
  unfold okU bodyOk at h; unfold vl
  cases hg : c.gone with
  | true => rfl
  | false => rw [hg] at h; simp at h; simpa using h.2.1
theorem vl_nil {c : Uc} (h : okU c = true) : vl c = [] ↔ c.gone = true := by
  rw [← vl_gone h]; simp
theorem DlOk.step {ds : List Rw} {c : Uc} (h : DlOk ds) (hc : okU c = true) (h6 : ¬ 6 < (setR (rwU c) ds).length) : DlOk (setR (rwU c) ds) :=
  ⟨srt_setR h.srt, fun r hr => by
    rcases mem_setR hr with h1 | ⟨rfl, h1⟩
    · exact h.good r h1
    · exact ⟨h1, vl_len hc, okU_len hc⟩, by omega⟩
/-- A change without an effect leaves the list. -/
theorem look_has : ∀ {l : List Rw} {k : List UInt8} {r : Rw}, srt l → r ∈ l → r.key = k → look l k = r.val
  | [], _, _, _, h, _ => by simp at h
  | q :: l, k, r, hs, h, e => by
    unfold look
    rcases List.mem_cons.1 h with rfl | h
    · rw [if_pos e]
    · rw [if_neg (by intro e'; have := hs.1 r h; rw [e', ← e, bl_irrefl] at this; cases this), look_has hs.2 h e]
theorem dlook_mem : ∀ {l : List Rw} {k : List UInt8}, look l k ≠ [] → ∃ r ∈ l, r.key = k ∧ r.val = look l k
  | [], _, h => absurd rfl h
  | q :: l, k, h => by
    unfold look at h ⊢
    split
    · rename_i e; exact ⟨q, by simp, e, rfl⟩
    · rename_i e
      rw [if_neg e] at h
      obtain ⟨r, hr, h1, h2⟩ := dlook_mem h
      exact ⟨r, by simp [hr], h1, h2⟩
theorem good_setR {ds : List Rw} {c : Rw} (h : ∀ r ∈ ds, r.val ≠ []) : ∀ r ∈ setR c ds, r.val ≠ [] := fun r hr => by
  rcases mem_setR hr with h1 | ⟨rfl, h1⟩
  · exact h r h1
  · exact h1
theorem setR_same {ds : List Rw} {c : Uc} (hs : srt ds) (hg : ∀ r ∈ ds, r.val ≠ []) (he : eff ds c = false) : setR (rwU c) ds = ds := by
  refine look_ext (srt_setR hs) hs (good_setR hg) hg fun k => ?_
  rw [look_setR hs]
  split
  · rename_i e
    unfold eff at he
    have : look ds c.key = vl c := by simpa using he
    show vl c = _
    rw [← this]; exact congrArg _ e
  · rfl
/-- What the loop keeps. -/
structure UsOk (us : List Uc) : Prop where
  num : ∀ i (h : i < us.length), us[i].st = (i : Int) + 1 ∧ us[i].pv = i
  good : ∀ u ∈ us, okU u = true ∧ (u.gone = true → u.val = [])
theorem usOk_nil : UsOk [] := ⟨fun i h => by simp at h, by simp⟩
theorem okU_upd (n : Nat) (c : Uc) : okU (upd n c) = okU c := by
  unfold okU upd vl
  cases c.gone <;> simp
theorem vl_upd (n : Nat) (c : Uc) : vl (upd n c) = vl c := by
  unfold upd vl
  cases c.gone <;> simp
theorem rwU_upd (n : Nat) (c : Uc) : rwU (upd n c) = rwU c := by
  unfold rwU; rw [vl_upd]; rfl
theorem eff_upd (ds : List Rw) (n : Nat) (c : Uc) : eff ds (upd n c) = eff ds c := by
  unfold eff; rw [vl_upd]; rfl
theorem upd_upd (n m : Nat) (c : Uc) : upd n (upd m c) = upd n c := by
  show Uc.mk _ _ _ _ _ = Uc.mk _ _ _ _ _
  rw [vl_upd]; rfl
theorem UsOk.push {us : List Uc} {c : Uc} (h : UsOk us) (hc : okU c = true) : UsOk (us ++ [upd us.length c]) := by
  refine ⟨fun i hi => ?_, fun u hu => ?_⟩
  · by_cases h1 : i < us.length
    · rw [List.getElem_append_left h1]; exact h.num i h1
    · have : i = us.length := by simp at hi; omega
      subst this
      rw [List.getElem_append_right (by omega)]
      simp [upd]
  · rcases List.mem_append.1 hu with h1 | h1
    · exact h.good u h1
    · simp at h1
      subst h1
      refine ⟨by rw [okU_upd]; exact hc, fun hg => ?_⟩
      show vl c = []
      unfold vl
      rw [show c.gone = true from hg]; rfl
theorem playD_ok : ∀ {l us : List Uc} {ds : List Rw}, UsOk us → DlOk ds → UsOk (playD l us ds).2.1 ∧ DlOk (playD l us ds).2.2
  | [], us, ds, hu, hd => ⟨hu, hd⟩
  | c :: l, us, ds, hu, hd => by
    unfold playD
    split
    · exact ⟨usOk_nil, dsOk_nil⟩
    · rename_i hc
      have hc : okU c = true := by simpa using hc
      split
      · exact playD_ok hu hd
      · split
        · exact ⟨usOk_nil, dsOk_nil⟩
        · rename_i h6
          exact playD_ok (hu.push hc) (hd.step hc h6)
theorem playD_len : ∀ {l us : List Uc} {ds : List Rw}, (playD l us ds).2.1.length ≤ us.length + l.length
  | [], us, ds => Nat.le_refl _
  | c :: l, us, ds => by
    unfold playD
    split
    · simp
    · split
      · have := playD_len (l := l) (us := us) (ds := ds); simp; omega
      · split
        · simp
        · have := playD_len (l := l) (us := us ++ [upd us.length c]) (ds := setR (rwU c) ds)
          simp at this ⊢; omega
theorem playL_ok (l : List Uc) : UsOk (playL l).2.1 ∧ DlOk (playL l).2.2 := by
  unfold playL
  split
  · exact ⟨usOk_nil, dsOk_nil⟩
  · exact playD_ok usOk_nil dsOk_nil
theorem playL_len (l : List Uc) : (playL l).2.1.length ≤ 100 := by
  unfold playL
  split
  · simp
  · have := playD_len (l := l) (us := []) (ds := []); simp at this; omega
/-- The codes. -/
theorem playD_code : ∀ {l us : List Uc} {ds : List Rw}, (playD l us ds).1 = 0 ∨ ((playD l us ds).1 ≠ 0 ∧ (playD l us ds).2 = ([], []))
  | [], us, ds => .inl rfl
  | c :: l, us, ds => by
    unfold playD
    split
    · exact .inr ⟨by decide, rfl⟩
    · split
      · exact playD_code
      · split
        · exact .inr ⟨by decide, rfl⟩
        · exact playD_code
theorem playL_code (l : List Uc) : (playL l).1 = 0 ∨ ((playL l).1 ≠ 0 ∧ (playL l).2 = ([], [])) := by
  unfold playL
  split
  · exact .inr ⟨by decide, rfl⟩
  · exact playD_code
/-- The last ones. -/
theorem lastOnes_sub : ∀ {l : List Uc} {u : Uc}, u ∈ lastOnes l → u ∈ l
  | [], _, h => by simp [lastOnes] at h
  | v :: l, u, h => by
    unfold lastOnes at h
    split at h
    · simp [lastOnes_sub h]
    · rcases List.mem_cons.1 h with rfl | h
      · simp
      · simp [lastOnes_sub h]
theorem lastOnes_has : ∀ (l : List Uc) (k : List UInt8), (lastOnes l).any (fun v => v.key == k) = l.any (fun v => v.key == k)
  | [], _ => rfl
  | u :: l, k => by
    unfold lastOnes
    split
    · rename_i h
      rw [lastOnes_has l k, List.any_cons]
      cases hk : (u.key == k) with
      | false => rw [Bool.false_or]
      | true => rw [Bool.true_or]; have := eq_of_beq hk; subst this; exact h
    · rw [List.any_cons, lastOnes_has l k, List.any_cons]
theorem lastOnes_len : ∀ (l : List Uc), (lastOnes l).length ≤ l.length
  | [] => Nat.le_refl _
  | u :: l => by
    unfold lastOnes
    have := lastOnes_len l
    split <;> simp <;> omega
end Go.Proofs.Ytmlgaedhfannmaa

/- Device lists: the mathematics of the reference. Nothing of the program is named here. -/
namespace Go.Proofs.Ytmlgaedhfannmaa
set_option linter.unusedVariables false
set_option linter.unusedSimpArgs false
def smG : Bool → Uc → List Rw → Bool
  | s, _, [] => s
  | s, c, r :: l => smG (if r.key = c.key then r.val == vl c else s) c l
theorem smG_eq {c : Uc} : ∀ {l : List Rw} {s : Bool}, srt l → smG s c l = if l.any (fun r => r.key == c.key) then look l c.key == vl c else s
  | [], s, _ => rfl
  | r :: l, s, h => by
    unfold smG
    rw [smG_eq h.2, List.any_cons]
    by_cases hk : r.key = c.key
    · have hno : l.any (fun r => r.key == c.key) = false := by
        rw [List.any_eq_false]
        intro q hq e
        have := h.1 q hq
        rw [hk, ← show q.key = c.key by simpa using e, bl_irrefl] at this
        cases this
      rw [hno, if_neg (by simp), if_pos hk, show (r.key == c.key) = true by simpa using hk, Bool.true_or, if_pos rfl, look, if_pos hk]
    · rw [if_neg hk, show (r.key == c.key) = false by simpa using hk, Bool.false_or, look, if_neg hk]
def hadD (l : List Rw) (k : List UInt8) : Bool := l.any (fun r => r.key == k)
theorem hadD_look {l : List Rw} {k : List UInt8} (hs : srt l) (hg : ∀ r ∈ l, r.val ≠ []) : hadD l k = !(look l k == []) := by
  unfold hadD
  cases h : l.any (fun r => r.key == k) with
  | true =>
    obtain ⟨r, hr, e⟩ := List.any_eq_true.1 h
    have := look_has hs hr (by simpa using e)
    rw [this]
    have := hg r hr
    simp [this]
  | false =>
    have : look l k = [] := look_none fun q hq e => by
      rw [List.any_eq_false] at h
      exact h q hq (by simp [e])
    rw [this]; rfl
/-- The reference's test of a change without an effect. -/
theorem eff_ref {ds : List Rw} {c : Uc} (hs : srt ds) (hg : ∀ r ∈ ds, r.val ≠ []) (hc : okU c = true) : eff ds c = !((c.gone && !hadD ds c.key) || (!c.gone && smG false c ds)) := by
  rw [smG_eq hs, hadD_look hs hg]
  have hany := hadD_look (k := c.key) hs hg
  unfold hadD at hany
  rw [hany]
  have hv := vl_gone hc
  unfold eff
  cases hgn : c.gone with
  | true =>
    rw [hgn] at hv
    have : vl c = [] := by simpa using hv
    rw [this]
    simp
  | false =>
    rw [hgn] at hv
    have hne : vl c ≠ [] := by intro e; rw [e] at hv; cases hv
    by_cases he : look ds c.key = []
    · rw [he]
      have : ([] == vl c) = false := by simpa using hne.symm
      simp [this]
    · simp [he]
theorem ins_ref {ds : List Rw} {c : Uc} (hs : srt ds) (hc : okU c = true) : insG c.gone (rwU c) ds = setR (rwU c) ds := by
  have := insG_eq (rwU c) hs
  rw [show (rwU c).val.isEmpty = c.gone from vl_gone hc] at this
  exact this
theorem ins_len (b : Bool) (c : Rw) : ∀ (l : List Rw), (insG b c l).length ≤ l.length + 1
  | [] => by unfold insG; split <;> simp
  | r :: l => by
    unfold insG
    have h1 := ins_len (b || Op.bytesLess c.key r.key) c l
    have h2 : ∀ (l : List Rw), (insG true c l).length ≤ l.length := by
      intro l
      induction l with
      | nil => simp [insG]
      | cons q l ih =>
        unfold insG
        rw [if_neg (by simp), Bool.true_or]
        split <;> simp <;> omega
    have h3 := h2 l
    cases b with
    | true =>
      rw [if_neg (by simp), Bool.true_or]
      split <;> simp <;> omega
    | false =>
      rw [Bool.false_or]
      cases hb : Op.bytesLess c.key r.key with
      | true =>
        rw [if_pos ⟨rfl, rfl⟩]
        split <;> simp <;> omega
      | false =>
        rw [hb, Bool.false_or] at h1
        rw [if_neg (by simp)]
        split <;> simp <;> omega
/-- Backward. -/
theorem ones_step {l : List Uc} {i : Nat} (hi : i < l.length) : lastOnes (l.drop i) = if (lastOnes (l.drop (i + 1))).any (fun v => v.key == l[i].key) then lastOnes (l.drop (i + 1)) else l[i] :: lastOnes (l.drop (i + 1)) := by
  rw [List.drop_eq_getElem_cons hi, lastOnes, lastOnes_has]
end Go.Proofs.Ytmlgaedhfannmaa

/- Device lists: what the statements on them rest on. Nothing of the program is named here. -/
namespace Go.Proofs.Ytmlgaedhfannmaa
set_option linter.unusedVariables false
set_option linter.unusedSimpArgs false

/-- Played again, updates make themselves. -/
theorem playD_again : ∀ {l us : List Uc} {ds : List Rw} {vs : List Uc} {es : List Rw}, playD l us ds = (0, vs, es) → ∃ ws, vs = us ++ ws ∧ playD ws us ds = (0, vs, es)
  | [], us, ds, vs, es, h => by
    unfold playD at h
    injection h with _ h; injection h with h1 h2
    subst h1 h2
    exact ⟨[], by simp, rfl⟩
  | c :: l, us, ds, vs, es, h => by
    rw [playD] at h
    split at h
    · injection h with h _; cases h
    · rename_i hc
      split at h
      · exact playD_again h
      · rename_i he
        split at h
        · injection h with h _; cases h
        · rename_i h6
          obtain ⟨ws, h1, h2⟩ := playD_again h
          refine ⟨upd us.length c :: ws, by rw [h1]; simp, ?_⟩
          rw [playD, okU_upd, if_neg hc, eff_upd, if_neg he, rwU_upd, if_neg h6, upd_upd]
          exact h2
theorem playD_sets : ∀ {l us : List Uc} {ds : List Rw}, srt ds → (∀ r ∈ ds, r.val ≠ []) → (playD l us ds).1 = 0 → (playD l us ds).2.2 = sets ds (l.map rwU)
  | [], us, ds, _, _, _ => rfl
  | c :: l, us, ds, hs, hg, h => by
    rw [playD] at h ⊢
    rw [List.map_cons, sets_cons]
    split at h
    · cases h
    · rename_i hc
      rw [if_neg hc]
      split at h
      · rename_i he
        rw [if_pos he, playD_sets hs hg h, setR_same hs hg he]
      · rename_i he
        rw [if_neg he]
        split at h
        · cases h
        · rename_i h6
          rw [if_neg h6, playD_sets (srt_setR hs) (good_setR hg) h]
/-- Six devices. -/
def sixL : List (List UInt8) := [[97], [98], [99], [100], [101], [102]]
def Six (c : Uc) : Prop := okU c = true ∧ c.key ∈ sixL
theorem six_upd {n : Nat} {c : Uc} (h : Six c) : Six (upd n c) := ⟨by rw [okU_upd]; exact h.1, h.2⟩
theorem playD_fine : ∀ {l us : List Uc} {ds : List Rw}, (∀ c ∈ l, Six c) → srt ds → (∀ r ∈ ds, r.key ∈ sixL) → (playD l us ds).1 = 0
  | [], us, ds, _, _, _ => rfl
  | c :: l, us, ds, hl, hs, hd => by
    have hc := hl c (by simp)
    have hkeys : ∀ r ∈ setR (rwU c) ds, r.key ∈ sixL := fun r hr => by
      rcases mem_setR hr with h1 | ⟨rfl, _⟩
      · exact hd r h1
      · exact hc.2
    have h6 : ¬ 6 < (setR (rwU c) ds).length := by have := srt_len (srt_setR (c := rwU c) hs) hkeys; simp [sixL] at this; omega
    rw [playD, if_neg (by simp [hc.1])]
    split
    · exact playD_fine (fun x hx => hl x (by simp [hx])) hs hd
    · first | rw [if_neg h6] | skip
      exact playD_fine (fun x hx => hl x (by simp [hx])) (srt_setR hs) hkeys
/-- What is told of updates. -/
theorem playD_six : ∀ {l us : List Uc} {ds : List Rw}, (∀ c ∈ l, Six c) → (∀ c ∈ us, Six c) → ∀ u ∈ (playD l us ds).2.1, Six u
  | [], us, ds, _, hu, u, h => hu u h
  | c :: l, us, ds, hl, hu, u, h => by
    rw [playD] at h
    split at h
    · simp at h
    · split at h
      · exact playD_six (fun x hx => hl x (by simp [hx])) hu u h
      · split at h
        · simp at h
        · refine playD_six (fun x hx => hl x (by simp [hx])) (fun x hx => ?_) u h
          rcases List.mem_append.1 hx with h1 | h1
          · exact hu x h1
          · simp at h1; subst h1; exact six_upd (hl c (by simp))
/-- All of it for a list of six devices. -/
def upsD (l : List Uc) : List Uc := (playD l [] []).2.1
def tabD (l : List Uc) : List Rw := sets [] (l.map rwU)
theorem playL_six {l : List Uc} (h : ∀ c ∈ l, Six c) (hn : l.length ≤ 100) : playL l = (0, upsD l, tabD l) := by
  unfold playL
  rw [if_neg (by omega)]
  have h1 := playD_fine (us := []) h (ds := []) trivial (by simp)
  have h2 := playD_sets (us := []) (ds := []) (l := l) trivial (by simp) h1
  unfold upsD tabD
  rw [← h2, ← h1]
theorem upsD_six {l : List Uc} (h : ∀ c ∈ l, Six c) : ∀ u ∈ upsD l, Six u := playD_six h (by simp)
theorem upsD_ok (l : List Uc) : UsOk (upsD l) := (playD_ok usOk_nil dsOk_nil).1
theorem upsD_len (l : List Uc) : (upsD l).length ≤ l.length := by have := playD_len (l := l) (us := []) (ds := []); rw [List.length_nil, Nat.zero_add] at this; exact this
theorem upsD_again {l : List Uc} (h : ∀ c ∈ l, Six c) : upsD (upsD l) = upsD l ∧ tabD (upsD l) = tabD l := by
  have h1 := playD_fine (us := []) h (ds := []) trivial (by simp)
  have h2 : playD l [] [] = (0, upsD l, (playD l [] []).2.2) := by rw [← h1]; rfl
  obtain ⟨ws, hw, hp⟩ := playD_again h2
  rw [List.nil_append] at hw
  subst hw
  have e1 : (playD (upsD l) [] []).2.1 = upsD l := by rw [hp]
  refine ⟨e1, ?_⟩
  have h3 := playD_sets (us := []) (ds := []) (l := upsD l) trivial (by simp) (by rw [hp])
  have h4 := playD_sets (us := []) (ds := []) (l := l) trivial (by simp) h1
  unfold tabD
  rw [← h3, ← h4, hp]
theorem sets_good : ∀ {cs l : List Rw}, (∀ r ∈ l, r.val ≠ []) → ∀ r ∈ sets l cs, r.val ≠ []
  | [], l, h => h
  | c :: cs, l, h => by rw [sets_cons]; exact sets_good (good_setR h)
theorem tabD_srt (l : List Uc) : srt (tabD l) := srt_sets (cs := l.map rwU) (l := []) trivial
theorem tabD_good (l : List Uc) : ∀ r ∈ tabD l, r.val ≠ [] := sets_good (by simp)
theorem tabD_look (l : List Uc) (k : List UInt8) : look (tabD l) k = lastOf (l.map rwU) k [] := by
  unfold tabD; rw [look_sets (l := []) trivial]; rfl
theorem tabD_ext {l m : List Uc} (h : ∀ k, lastOf (l.map rwU) k [] = lastOf (m.map rwU) k []) : tabD l = tabD m :=
  look_ext (tabD_srt l) (tabD_srt m) (tabD_good l) (tabD_good m) fun k => by rw [tabD_look, tabD_look, h k]
theorem dlastOf_app (k : List UInt8) : ∀ (a b : List Rw) (d : List UInt8), lastOf (a ++ b) k d = lastOf b k (lastOf a k d)
  | [], b, d => rfl
  | x :: a, b, d => by rw [List.cons_append, lastOf, lastOf, dlastOf_app k a b]
theorem lastOf_any {k : List UInt8} : ∀ {l : List Uc} (d e : List UInt8), l.any (fun v => v.key == k) = true → lastOf (l.map rwU) k d = lastOf (l.map rwU) k e
  | [], d, e, h => by simp at h
  | u :: l, d, e, h => by
    rw [List.map_cons, lastOf, lastOf]
    by_cases hk : u.key = k
    · rw [if_pos (show (rwU u).key = k from hk), if_pos (show (rwU u).key = k from hk)]
    · rw [if_neg (show ¬ (rwU u).key = k from hk), if_neg (show ¬ (rwU u).key = k from hk)]
      exact lastOf_any d e (by simpa [hk] using h)
theorem dlastOf_none {k : List UInt8} : ∀ {l : List Uc} (d : List UInt8), l.any (fun v => v.key == k) = false → lastOf (l.map rwU) k d = d
  | [], d, h => rfl
  | u :: l, d, h => by
    rw [List.any_cons, Bool.or_eq_false_iff] at h
    rw [List.map_cons, lastOf, if_neg (show ¬ (rwU u).key = k from fun e => by have h1 := h.1; rw [show u.key = k from e] at h1; simp at h1), dlastOf_none d h.2]
theorem lastOf_ones (k : List UInt8) : ∀ (l : List Uc) (d : List UInt8), lastOf ((lastOnes l).map rwU) k d = lastOf (l.map rwU) k d
  | [], d => rfl
  | u :: l, d => by
    unfold lastOnes
    split
    · rename_i h
      rw [lastOf_ones k l d, List.map_cons, lastOf]
      split
      · rename_i e
        exact lastOf_any _ _ (by rw [← e]; exact h)
      · rfl
    · rw [List.map_cons, List.map_cons, lastOf, lastOf, lastOf_ones k l]
theorem lastOf_one : ∀ {l : List Uc} {u : Uc} (d : List UInt8), u ∈ lastOnes l → lastOf (l.map rwU) u.key d = vl u
  | [], u, d, h => by simp [lastOnes] at h
  | v :: l, u, d, h => by
    unfold lastOnes at h
    rw [List.map_cons, lastOf]
    split at h
    · exact lastOf_one _ h
    · rename_i hv
      rcases List.mem_cons.1 h with rfl | h
      · rw [dlastOf_none _ (by simpa using hv), if_pos (show (rwU u).key = u.key from rfl)]; rfl
      · exact lastOf_one _ h
theorem ones_pw : ∀ (l : List Uc), (lastOnes l).Pairwise (fun a b => a.key ≠ b.key)
  | [] => by simp [lastOnes]
  | u :: l => by
    unfold lastOnes
    split
    · exact ones_pw l
    · rename_i h
      rw [List.pairwise_cons]
      refine ⟨fun b hb e => h ?_, ones_pw l⟩
      rw [List.any_eq_true]
      exact ⟨b, lastOnes_sub hb, by simp [e]⟩
theorem ones_subl : ∀ (l : List Uc), (lastOnes l).Sublist l
  | [] => by simp [lastOnes]
  | u :: l => by
    unfold lastOnes
    split
    · exact (ones_subl l).cons u
    · exact (ones_subl l).cons_cons u
/-- DevicesSince. -/
theorem since_tab {l : List Uc} (h : ∀ c ∈ l, Six c) (k : Nat) : tabD ((upsD l).take k ++ lastOnes ((upsD l).drop k)) = tabD l := by
  rw [← (upsD_again h).2]
  refine tabD_ext fun x => ?_
  rw [List.map_append, dlastOf_app, lastOf_ones, ← dlastOf_app, ← List.map_append, List.take_append_drop]
theorem since_six {l : List Uc} (h : ∀ c ∈ l, Six c) (k : Nat) : ∀ u ∈ (upsD l).take k ++ lastOnes ((upsD l).drop k), Six u := fun u hu => by
  rcases List.mem_append.1 hu with h1 | h1
  · exact upsD_six h u (List.mem_of_mem_take h1)
  · exact upsD_six h u (List.mem_of_mem_drop (lastOnes_sub h1))
theorem since_len (l : List Uc) (k : Nat) : ((upsD l).take k ++ lastOnes ((upsD l).drop k)).length ≤ l.length := by
  have h1 := lastOnes_len ((upsD l).drop k)
  have h2 := upsD_len l
  rw [List.length_append, List.length_take]
  rw [List.length_drop] at h1
  omega
theorem ups_pw (l : List Uc) : (upsD l).Pairwise (fun a b => a.st < b.st) := by
  rw [List.pairwise_iff_getElem]
  intro i j hi hj hij
  rw [((upsD_ok l).num i hi).1, ((upsD_ok l).num j hj).1]
  omega
theorem since_up (l : List Uc) (k : Nat) : (lastOnes ((upsD l).drop k)).Pairwise (fun a b => a.st < b.st) := by
  refine List.Pairwise.sublist (ones_subl _) (List.Pairwise.sublist (List.drop_sublist k _) (ups_pw l))
theorem since_st (l : List Uc) (k : Nat) : ∀ u ∈ lastOnes ((upsD l).drop k), (k : Int) < u.st := fun u hu => by
  obtain ⟨i, hi, rfl⟩ := List.getElem_of_mem (lastOnes_sub hu)
  rw [List.getElem_drop, ((upsD_ok l).num (k + i) (by simp at hi; omega)).1]
  omega
/-- DevicesTurn. -/
def cntD : List Uc → List Rw → Nat
  | [], _ => 0
  | c :: l, ds => (if eff ds c = true then 1 else 0) + cntD l (setR (rwU c) ds)
theorem playD_cnt : ∀ {l us : List Uc} {ds : List Rw}, srt ds → (∀ r ∈ ds, r.val ≠ []) → (playD l us ds).1 = 0 → (playD l us ds).2.1.length = us.length + cntD l ds
  | [], us, ds, _, _, _ => rfl
  | c :: l, us, ds, hs, hg, h => by
    rw [playD] at h ⊢
    rw [cntD]
    split at h
    · cases h
    · rename_i hc
      rw [if_neg hc]
      split at h
      · rename_i he
        rw [if_pos he, playD_cnt hs hg h, setR_same hs hg he, if_neg (by simp [he])]
        omega
      · rename_i he
        rw [if_neg he]
        split at h
        · cases h
        · rename_i h6
          rw [if_neg h6, playD_cnt (srt_setR hs) (good_setR hg) h, if_pos (by simpa using he)]
          simp; omega
theorem setR_swap {a b : Rw} {ds : List Rw} (hs : srt ds) (hg : ∀ r ∈ ds, r.val ≠ []) (hne : a.key ≠ b.key) : setR a (setR b ds) = setR b (setR a ds) := by
  refine look_ext (srt_setR (srt_setR hs)) (srt_setR (srt_setR hs)) (good_setR (good_setR hg)) (good_setR (good_setR hg)) fun k => ?_
  rw [look_setR (srt_setR hs), look_setR hs, look_setR (srt_setR hs), look_setR hs]
  by_cases h1 : a.key = k
  · rw [if_pos h1, if_neg (fun e => hne (h1.trans e.symm)), if_pos h1]
  · rw [if_neg h1, if_neg h1]
theorem eff_other {c d : Uc} {ds : List Rw} (hs : srt ds) (hne : c.key ≠ d.key) : eff (setR (rwU c) ds) d = eff ds d := by
  unfold eff
  rw [look_setR hs, if_neg (show ¬ (rwU c).key = d.key from hne)]
theorem cnt_swap {c d : Uc} {q : List Uc} (hne : c.key ≠ d.key) : ∀ {p : List Uc} {ds : List Rw}, srt ds → (∀ r ∈ ds, r.val ≠ []) → cntD (p ++ c :: d :: q) ds = cntD (p ++ d :: c :: q) ds
  | [], ds, hs, hg => by
    rw [List.nil_append, List.nil_append, cntD, cntD, cntD, cntD, eff_other hs hne, eff_other hs hne.symm, setR_swap hs hg (show (rwU d).key ≠ (rwU c).key from hne.symm)]
    omega
  | x :: p, ds, hs, hg => by
    rw [List.cons_append, List.cons_append, cntD, cntD, cnt_swap hne (srt_setR hs) (good_setR hg)]
theorem turn_len {p q : List Uc} {c d : Uc} (hne : c.key ≠ d.key) (h1 : ∀ x ∈ p ++ c :: d :: q, Six x) (h2 : ∀ x ∈ p ++ d :: c :: q, Six x) : (upsD (p ++ c :: d :: q)).length = (upsD (p ++ d :: c :: q)).length := by
  unfold upsD
  rw [playD_cnt (ds := []) trivial (by simp) (playD_fine (ds := []) h1 trivial (by simp)), playD_cnt (ds := []) trivial (by simp) (playD_fine (ds := []) h2 trivial (by simp)), cnt_swap hne (ds := []) trivial (by simp)]
theorem turn_tab {p q : List Uc} {c d : Uc} (hne : c.key ≠ d.key) : tabD (p ++ c :: d :: q) = tabD (p ++ d :: c :: q) := by
  unfold tabD
  rw [List.map_append, List.map_append, sets_app, sets_app, List.map_cons, List.map_cons, List.map_cons, List.map_cons, sets_cons, sets_cons, sets_cons, sets_cons,
    setR_swap (srt_sets (cs := p.map rwU) (l := []) trivial) (sets_good (by simp)) (show (rwU d).key ≠ (rwU c).key from hne.symm)]
/-- DevicesAll. -/
theorem all_in {l : List Uc} (h : ∀ c ∈ l, Six c) {u : Uc} (hu : u ∈ lastOnes (upsD l)) (hg : u.gone = false) : (⟨u.key, u.val⟩ : Rw) ∈ tabD l := by
  have h6 := upsD_six h u (lastOnes_sub hu)
  have hv : vl u = u.val := by unfold vl; rw [hg]; rfl
  have h1 : look (tabD l) u.key = u.val := by rw [← (upsD_again h).2, tabD_look, lastOf_one _ hu, hv]
  have h2 : u.val ≠ [] := by rw [← hv, Ne, vl_nil h6.1]; simp [hg]
  obtain ⟨r, hr, e1, e2⟩ := dlook_mem (l := tabD l) (k := u.key) (by rw [h1]; exact h2)
  rw [h1] at e2
  have : r = ⟨u.key, u.val⟩ := Rw.ext' e1 e2
  rw [← this]; exact hr
theorem all_len {l : List Uc} (h : ∀ c ∈ l, Six c) : ((lastOnes (upsD l)).filter (fun u => !u.gone)).length = (tabD l).length := by
  apply Nat.le_antisymm
  · have hn : (((lastOnes (upsD l)).filter (fun u => !u.gone)).map (·.key)).Nodup := by
      rw [List.Nodup, List.pairwise_map]
      exact List.Pairwise.sublist (List.filter_sublist) (ones_pw _)
    have := mem_len hn (m := (tabD l).map (·.key)) fun k hk => by
      obtain ⟨u, hu, rfl⟩ := List.mem_map.1 hk
      obtain ⟨hu1, hu2⟩ := List.mem_filter.1 hu
      exact List.mem_map.2 ⟨_, all_in h hu1 (by simpa using hu2), rfl⟩
    simpa using this
  · have := mem_len (srt_nodup (tabD_srt l)) (m := ((lastOnes (upsD l)).filter (fun u => !u.gone)).map (·.key)) fun k hk => by
      obtain ⟨r, hr, rfl⟩ := List.mem_map.1 hk
      have h1 := look_has (tabD_srt l) hr rfl
      have h2 := tabD_good l r hr
      rw [← (upsD_again h).2, tabD_look] at h1
      have h3 : (upsD l).any (fun v => v.key == r.key) = true := by
        cases ha : (upsD l).any (fun v => v.key == r.key) with
        | true => rfl
        | false => rw [dlastOf_none _ ha] at h1; exact absurd h1.symm h2
      rw [← lastOnes_has] at h3
      obtain ⟨u, hu, e⟩ := List.any_eq_true.1 h3
      have e : u.key = r.key := by simpa using e
      rw [← e, lastOf_one _ hu] at h1
      refine List.mem_map.2 ⟨u, List.mem_filter.2 ⟨hu, ?_⟩, e⟩
      have h6 := upsD_six h u (lastOnes_sub hu)
      have : vl u ≠ [] := by rw [h1]; exact h2
      rw [Ne, vl_nil h6.1] at this
      simpa using this
    simpa using this
end Go.Proofs.Ytmlgaedhfannmaa
