/- Device lists: what changes come to. Nothing of the program is named here. -/
import Derived.Test.YtmlgaedhfannmaaBunRA
import Derived.Test.YtmlgaedhfannmaaBunD
namespace Go.Proofs.Ytmlgaedhfannmaa
set_option linter.unusedVariables false
set_option linter.unusedSimpArgs false

/-- A change, or an update. -/
structure Uc where
  st : Int
  pv : Int
  key : List UInt8
  val : List UInt8
  gone : Bool
def vl (c : Uc) : List UInt8 := if c.gone then [] else c.val
def rwU (c : Uc) : Rw := ⟨c.key, vl c⟩
def bodyOk (s : List UInt8) : Bool := !s.isEmpty && decide (s.length ≤ 20)
def okU (c : Uc) : Bool := loc c.key && (c.gone || bodyOk c.val)
/-- The update that a change makes behind n others. -/
def upd (n : Nat) (c : Uc) : Uc := ⟨(n : Int) + 1, n, c.key, vl c, c.gone⟩
/-- Does it have an effect? -/
def eff (ds : List Rw) (c : Uc) : Bool := !(look ds c.key == vl c)
/-- What changes come to behind others: a code, the updates, the list. -/
def playD : List Uc → List Uc → List Rw → Int × List Uc × List Rw
  | [], us, ds => (0, us, ds)
  | c :: l, us, ds =>
    if okU c = false then (4, [], []) else
    if eff ds c = false then playD l us ds else
    if 6 < (setR (rwU c) ds).length then (10, [], []) else playD l (us ++ [upd us.length c]) (setR (rwU c) ds)
def playL (l : List Uc) : Int × List Uc × List Rw := if 100 < l.length then (1, [], []) else playD l [] []
/-- Those that have no later one of the same device. -/
def lastOnes : List Uc → List Uc
  | [] => []
  | u :: l => if l.any (fun v => v.key == u.key) then lastOnes l else u :: lastOnes l
def sinceL (l : List Uc) (at_ : Int) : Int × List Uc :=
  if (playL l).1 ≠ 0 then ((playL l).1, []) else
  if at_ < 0 ∨ ((playL l).2.1.length : Int) < at_ then (2, []) else (0, lastOnes ((playL l).2.1.drop at_.toNat))

/-- A list of devices as changes leave it. -/
structure DsOk (ds : List Rw) : Prop where
  srt : srt ds
  good : ∀ r ∈ ds, r.val ≠ [] ∧ r.val.length ≤ 20 ∧ r.key.length ≤ 20
  few : ds.length ≤ 6
theorem dsOk_nil : DsOk [] := ⟨trivial, by simp, by simp⟩
theorem okU_key {c : Uc} (h : okU c = true) : loc c.key = true := by unfold okU at h; simp at h; exact h.1
theorem okU_len {c : Uc} (h : okU c = true) : c.key.length ≤ 20 := (isNm_len (okU_key h)).2.1
theorem vl_len {c : Uc} (h : okU c = true) : (vl c).length ≤ 20 := by
  unfold okU bodyOk at h; unfold vl
  cases hg : c.gone with
  | true => simp
  | false => rw [hg] at h; simp at h; simpa using h.2.2
theorem vl_gone {c : Uc} (h : okU c = true) : (vl c).isEmpty = c.gone := by
  unfold okU bodyOk at h; unfold vl
  cases hg : c.gone with
  | true => rfl
  | false => rw [hg] at h; simp at h; simpa using h.2.1
theorem vl_nil {c : Uc} (h : okU c = true) : vl c = [] ↔ c.gone = true := by
  rw [← vl_gone h]; simp
theorem DsOk.step {ds : List Rw} {c : Uc} (h : DsOk ds) (hc : okU c = true) (h6 : ¬ 6 < (setR (rwU c) ds).length) : DsOk (setR (rwU c) ds) :=
  ⟨srt_setR h.srt, fun r hr => by
    rcases mem_setR hr with h1 | ⟨rfl, h1⟩
    · exact h.good r h1
    · exact ⟨h1, vl_len hc, okU_len hc⟩, by omega⟩
/-- A change without an effect leaves the list. -/
theorem look_has : ∀ {l : List Rw} {k : List UInt8} {r : Rw}, srt l → r ∈ l → r.key = k → look l k = r.val
  | [], _, _, _, h, _ => by simp at h
  | q :: l, k, r, hs, h, e => by
    unfold look
    rcases List.mem_cons.1 h with rfl | h
    · rw [if_pos e]
    · rw [if_neg (by intro e'; have := hs.1 r h; rw [e', ← e, bl_irrefl] at this; cases this), look_has hs.2 h e]
theorem look_mem : ∀ {l : List Rw} {k : List UInt8}, look l k ≠ [] → ∃ r ∈ l, r.key = k ∧ r.val = look l k
  | [], _, h => absurd rfl h
  | q :: l, k, h => by
    unfold look at h ⊢
    split
    · rename_i e; exact ⟨q, by simp, e, rfl⟩
    · rename_i e
      rw [if_neg e] at h
      obtain ⟨r, hr, h1, h2⟩ := look_mem h
      exact ⟨r, by simp [hr], h1, h2⟩
theorem good_setR {ds : List Rw} {c : Rw} (h : ∀ r ∈ ds, r.val ≠ []) : ∀ r ∈ setR c ds, r.val ≠ [] := fun r hr => by
  rcases mem_setR hr with h1 | ⟨rfl, h1⟩
  · exact h r h1
  · exact h1
theorem setR_same {ds : List Rw} {c : Uc} (hs : srt ds) (hg : ∀ r ∈ ds, r.val ≠ []) (he : eff ds c = false) : setR (rwU c) ds = ds := by
  refine look_ext (srt_setR hs) hs (good_setR hg) hg fun k => ?_
  rw [look_setR hs]
  split
  · rename_i e
    unfold eff at he
    have : look ds c.key = vl c := by simpa using he
    show vl c = _
    rw [← this]; exact congrArg _ e
  · rfl
/-- What the loop keeps. -/
structure UsOk (us : List Uc) : Prop where
  num : ∀ i (h : i < us.length), us[i].st = (i : Int) + 1 ∧ us[i].pv = i
  good : ∀ u ∈ us, okU u = true ∧ (u.gone = true → u.val = [])
theorem usOk_nil : UsOk [] := ⟨fun i h => by simp at h, by simp⟩
theorem okU_upd (n : Nat) (c : Uc) : okU (upd n c) = okU c := by
  unfold okU upd vl
  cases c.gone <;> simp
theorem vl_upd (n : Nat) (c : Uc) : vl (upd n c) = vl c := by
  unfold upd vl
  cases c.gone <;> simp
theorem rwU_upd (n : Nat) (c : Uc) : rwU (upd n c) = rwU c := by
  unfold rwU; rw [vl_upd]; rfl
theorem eff_upd (ds : List Rw) (n : Nat) (c : Uc) : eff ds (upd n c) = eff ds c := by
  unfold eff; rw [vl_upd]; rfl
theorem upd_upd (n m : Nat) (c : Uc) : upd n (upd m c) = upd n c := by
  show Uc.mk _ _ _ _ _ = Uc.mk _ _ _ _ _
  rw [vl_upd]; rfl
theorem UsOk.push {us : List Uc} {c : Uc} (h : UsOk us) (hc : okU c = true) : UsOk (us ++ [upd us.length c]) := by
  refine ⟨fun i hi => ?_, fun u hu => ?_⟩
  · by_cases h1 : i < us.length
    · rw [List.getElem_append_left h1]; exact h.num i h1
    · have : i = us.length := by simp at hi; omega
      subst this
      rw [List.getElem_append_right (by omega)]
      simp [upd]
  · rcases List.mem_append.1 hu with h1 | h1
    · exact h.good u h1
    · simp at h1
      subst h1
      refine ⟨by rw [okU_upd]; exact hc, fun hg => ?_⟩
      show vl c = []
      unfold vl
      rw [show c.gone = true from hg]; rfl
theorem playD_ok : ∀ {l us : List Uc} {ds : List Rw}, UsOk us → DsOk ds → UsOk (playD l us ds).2.1 ∧ DsOk (playD l us ds).2.2
  | [], us, ds, hu, hd => ⟨hu, hd⟩
  | c :: l, us, ds, hu, hd => by
    unfold playD
    split
    · exact ⟨usOk_nil, dsOk_nil⟩
    · rename_i hc
      have hc : okU c = true := by simpa using hc
      split
      · exact playD_ok hu hd
      · split
        · exact ⟨usOk_nil, dsOk_nil⟩
        · rename_i h6
          exact playD_ok (hu.push hc) (hd.step hc h6)
theorem playD_len : ∀ {l us : List Uc} {ds : List Rw}, (playD l us ds).2.1.length ≤ us.length + l.length
  | [], us, ds => Nat.le_refl _
  | c :: l, us, ds => by
    unfold playD
    split
    · simp
    · split
      · have := playD_len (l := l) (us := us) (ds := ds); simp; omega
      · split
        · simp
        · have := playD_len (l := l) (us := us ++ [upd us.length c]) (ds := setR (rwU c) ds)
          simp at this ⊢; omega
theorem playL_ok (l : List Uc) : UsOk (playL l).2.1 ∧ DsOk (playL l).2.2 := by
  unfold playL
  split
  · exact ⟨usOk_nil, dsOk_nil⟩
  · exact playD_ok usOk_nil dsOk_nil
theorem playL_len (l : List Uc) : (playL l).2.1.length ≤ 100 := by
  unfold playL
  split
  · simp
  · have := playD_len (l := l) (us := []) (ds := []); simp at this; omega
/-- The codes. -/
theorem playD_code : ∀ {l us : List Uc} {ds : List Rw}, (playD l us ds).1 = 0 ∨ ((playD l us ds).1 ≠ 0 ∧ (playD l us ds).2 = ([], []))
  | [], us, ds => .inl rfl
  | c :: l, us, ds => by
    unfold playD
    split
    · exact .inr ⟨by decide, rfl⟩
    · split
      · exact playD_code
      · split
        · exact .inr ⟨by decide, rfl⟩
        · exact playD_code
theorem playL_code (l : List Uc) : (playL l).1 = 0 ∨ ((playL l).1 ≠ 0 ∧ (playL l).2 = ([], [])) := by
  unfold playL
  split
  · exact .inr ⟨by decide, rfl⟩
  · exact playD_code
/-- The last ones. -/
theorem lastOnes_sub : ∀ {l : List Uc} {u : Uc}, u ∈ lastOnes l → u ∈ l
  | [], _, h => by simp [lastOnes] at h
  | v :: l, u, h => by
    unfold lastOnes at h
    split at h
    · simp [lastOnes_sub h]
    · rcases List.mem_cons.1 h with rfl | h
      · simp
      · simp [lastOnes_sub h]
theorem lastOnes_has : ∀ (l : List Uc) (k : List UInt8), (lastOnes l).any (fun v => v.key == k) = l.any (fun v => v.key == k)
  | [], _ => rfl
  | u :: l, k => by
    unfold lastOnes
    split
    · rename_i h
      rw [lastOnes_has l k, List.any_cons]
      cases hk : (u.key == k) with
      | false => rw [Bool.false_or]
      | true => rw [Bool.true_or]; have := eq_of_beq hk; subst this; exact h
    · rw [List.any_cons, lastOnes_has l k, List.any_cons]
theorem lastOnes_len : ∀ (l : List Uc), (lastOnes l).length ≤ l.length
  | [] => Nat.le_refl _
  | u :: l => by
    unfold lastOnes
    have := lastOnes_len l
    split <;> simp <;> omega
end Go.Proofs.Ytmlgaedhfannmaa
