/- The store: its mathematics (records, batches, what recovering does, what acts do). Nothing of the program is named here. -/
import Derived.Test.YtploicbiapjfdaaBunRA
import Derived.Test.YtploicbiapjfdaaRwSetM
import Derived.Test.YtploicbiapjfdaaWlPack
namespace Go.Proofs.Ytploicbiapjfdaa
set_option linter.unusedVariables false
set_option linter.unusedSimpArgs false
open Go.RowKit
/-! ### records -/
def recOf (r : Rw) : List UInt8 := UInt8.ofNat r.key.length :: (r.key ++ r.val)
def batOf (cs : List Rw) : List (List UInt8) := cs.map recOf
def rw0 : Rw := ⟨[], []⟩
/-- The change that a record is. -/
def chgOf (b : List UInt8) : Option Rw :=
  match b with
  | [] => none
  | n :: rest => if 1 ≤ n.toNat ∧ n.toNat ≤ 20 ∧ n.toNat ≤ rest.length ∧ rest.length ≤ n.toNat + 20 then some ⟨rest.take n.toNat, rest.drop n.toNat⟩ else none
def chgF (b : List UInt8) : Rw := (chgOf b).getD rw0
def goodBs (bs : List (List UInt8)) : Bool := bs.all (fun b => (chgOf b).isSome)
theorem sized_iff (r : Rw) : sizedR r = true ↔ 1 ≤ r.key.length ∧ r.key.length ≤ 20 ∧ r.val.length ≤ 20 := by
  unfold sizedR
  cases h : r.key <;> simp
theorem chgOf_sized {b : List UInt8} {r : Rw} (h : chgOf b = some r) : sizedR r = true := by
  match b, h with
  | n :: rest, h =>
    simp only [chgOf] at h
    split at h
    case isFalse => cases h
    case isTrue hc =>
      injection h with h
      subst h
      rw [sized_iff]
      simp only [List.length_take, List.length_drop]
      omega
theorem chgF_sized {b : List UInt8} (h : (chgOf b).isSome = true) : sizedR (chgF b) = true := by
  obtain ⟨r, hr⟩ := Option.isSome_iff_exists.1 h
  unfold chgF; rw [hr]; exact chgOf_sized hr
theorem chg_rec {r : Rw} (h : sizedR r = true) : chgOf (recOf r) = some r := by
  rw [sized_iff] at h
  have hn : (UInt8.ofNat r.key.length).toNat = r.key.length := by rw [UInt8.toNat_ofNat']; exact Nat.mod_eq_of_lt (by omega)
  unfold recOf chgOf
  simp only
  rw [hn, if_pos (by rw [List.length_append]; omega), List.take_left', List.drop_left']
  · rfl
  · rfl
theorem chgF_rec {r : Rw} (h : sizedR r = true) : chgF (recOf r) = r := by unfold chgF; rw [chg_rec h]; rfl
theorem rec_len (r : Rw) : (recOf r).length = r.key.length + r.val.length + 1 := by simp [recOf]
theorem rec_ok {r : Rw} (h : sizedR r = true) : okRec (recOf r) := by
  rw [sized_iff] at h
  unfold okRec; rw [rec_len]; omega
theorem goodBs_bat {cs : List Rw} (h : goodC cs = true) : goodBs (batOf cs) = true := by
  unfold goodBs batOf
  rw [List.all_map, List.all_eq_true]
  intro r hr
  have := List.all_eq_true.1 h r hr
  simp [chg_rec this]
theorem map_bat : ∀ {cs : List Rw}, goodC cs = true → (batOf cs).map chgF = cs
  | [], _ => rfl
  | r :: cs, h => by
    have h1 := List.all_eq_true.1 h r (by simp)
    have h2 : goodC cs = true := List.all_eq_true.2 fun q hq => List.all_eq_true.1 h q (by simp [hq])
    show chgF (recOf r) :: (batOf cs).map chgF = _
    rw [chgF_rec h1, map_bat h2]
theorem goodC_map {bs : List (List UInt8)} (h : goodBs bs = true) : goodC (bs.map chgF) = true := by
  unfold goodC
  rw [List.all_map, List.all_eq_true]
  intro b hb
  exact chgF_sized (List.all_eq_true.1 h b hb)
theorem bat_ok {cs : List Rw} (h : goodC cs = true) : ∀ b ∈ batOf cs, okRec b := by
  intro b hb
  obtain ⟨r, hr, rfl⟩ := List.mem_map.1 hb
  exact rec_ok (List.all_eq_true.1 h r hr)
/-! ### the last change of each key -/
theorem lastOf_app (k : List UInt8) : ∀ (a b : List Rw) (d : List UInt8), lastOf (a ++ b) k d = lastOf b k (lastOf a k d)
  | [], _, _ => rfl
  | _ :: a, b, d => lastOf_app k a b _
theorem lastOf_none {k : List UInt8} : ∀ {l : List Rw} {d : List UInt8}, (∀ c ∈ l, c.key ≠ k) → lastOf l k d = d
  | [], _, _ => rfl
  | c :: l, d, h => by
    unfold lastOf
    rw [if_neg (h c (by simp)), lastOf_none fun q hq => h q (by simp [hq])]
theorem lastOf_of {k : List UInt8} {c : Rw} (hk : c.key = k) : ∀ {l : List Rw} {d : List UInt8}, c ∈ l → (∀ q ∈ l, q.key = k → q = c) → lastOf l k d = c.val
  | [], _, h, _ => by simp at h
  | a :: l, d, h, hu => by
    unfold lastOf
    by_cases hc : c ∈ l
    · exact lastOf_of hk hc fun q hq => hu q (by simp [hq])
    · have ha : a = c := by
        rcases List.mem_cons.1 h with h | h
        · exact h.symm
        · exact absurd h hc
      rw [ha, if_pos hk]
      exact lastOf_none fun q hq e => hc (by rw [← hu q (by simp [hq]) e]; exact hq)
theorem lastOf_has {k : List UInt8} : ∀ {l : List Rw} (d e : List UInt8), (∃ q ∈ l, q.key = k) → lastOf l k d = lastOf l k e
  | [], _, _, h => by simp at h
  | c :: l, d, e, h => by
    unfold lastOf
    by_cases hk : c.key = k
    · rw [if_pos hk, if_pos hk]
    · rw [if_neg hk, if_neg hk]
      obtain ⟨q, hq, hqk⟩ := h
      rcases List.mem_cons.1 hq with rfl | hq
      · exact absurd hqk hk
      · exact lastOf_has d e ⟨q, hq, hqk⟩
/-- Is there a later one of the key? -/
def more (r : Rw) (l : List Rw) : Bool := l.any (fun q => q.key == r.key)
def keepL : List Rw → List Rw
  | [] => []
  | r :: l => if more r l = true then keepL l else r :: keepL l
def gone (r : Rw) : Bool := r.val.isEmpty
def settledR (cs : List Rw) : List Rw := (keepL cs).filter gone ++ (keepL cs).filter (fun r => !gone r)
theorem more_iff {r : Rw} {l : List Rw} : more r l = true ↔ ∃ q ∈ l, q.key = r.key := by simp [more]
theorem mem_keep {q : Rw} : ∀ {l : List Rw}, q ∈ keepL l → q ∈ l
  | [], h => h
  | r :: l, h => by
    unfold keepL at h
    split at h
    · exact List.mem_cons_of_mem _ (mem_keep h)
    · rcases List.mem_cons.1 h with rfl | h
      · simp
      · exact List.mem_cons_of_mem _ (mem_keep h)
theorem keep_one : ∀ {l : List Rw} {p q : Rw}, p ∈ keepL l → q ∈ keepL l → p.key = q.key → p = q
  | [], _, _, h, _, _ => by simp [keepL] at h
  | r :: l, p, q, hp, hq, e => by
    unfold keepL at hp hq
    split at hp
    · rename_i hm
      rw [if_pos hm] at hq
      exact keep_one hp hq e
    · rename_i hm
      rw [if_neg hm] at hq
      rcases List.mem_cons.1 hp with hp1 | hp1
      · rcases List.mem_cons.1 hq with hq1 | hq1
        · rw [hp1, hq1]
        · exact absurd (more_iff.2 ⟨q, mem_keep hq1, by rw [← e, hp1]⟩) hm
      · rcases List.mem_cons.1 hq with hq1 | hq1
        · exact absurd (more_iff.2 ⟨p, mem_keep hp1, by rw [e, hq1]⟩) hm
        · exact keep_one hp1 hq1 e
theorem lastOf_keep (k : List UInt8) : ∀ (l : List Rw) (d : List UInt8), lastOf (keepL l) k d = lastOf l k d
  | [], _ => rfl
  | r :: l, d => by
    unfold keepL
    by_cases hm : more r l = true
    · rw [if_pos hm, lastOf_keep k l d]
      conv => rhs; unfold lastOf
      by_cases hk : r.key = k
      · rw [if_pos hk]
        exact lastOf_has _ _ (hk ▸ more_iff.1 hm)
      · rw [if_neg hk]
    · rw [if_neg hm]
      show lastOf (keepL l) k _ = lastOf l k _
      exact lastOf_keep k l _
theorem lastOf_settled (k : List UInt8) (l : List Rw) (d : List UInt8) : lastOf (settledR l) k d = lastOf l k d := by
  rw [← lastOf_keep k l d]
  unfold settledR
  rw [lastOf_app]
  by_cases h : ∃ c ∈ keepL l, c.key = k
  · obtain ⟨c, hc, hk⟩ := h
    have hu : ∀ q ∈ keepL l, q.key = k → q = c := fun q hq e => keep_one hq hc (e.trans hk.symm)
    rw [lastOf_of hk hc hu]
    cases hg : gone c with
    | true =>
      rw [lastOf_of hk (List.mem_filter.2 ⟨hc, hg⟩) fun q hq e => hu q (List.mem_filter.1 hq).1 e]
      refine lastOf_none fun q hq e => ?_
      obtain ⟨h1, h2⟩ := List.mem_filter.1 hq
      rw [hu q h1 e, hg] at h2; cases h2
    | false => exact lastOf_of hk (List.mem_filter.2 ⟨hc, by rw [hg]; rfl⟩) fun q hq e => hu q (List.mem_filter.1 hq).1 e
  · have hn : ∀ c ∈ keepL l, c.key ≠ k := fun c hc e => h ⟨c, hc, e⟩
    rw [lastOf_none hn, lastOf_none fun q hq => hn q (List.mem_filter.1 hq).1, lastOf_none fun q hq => hn q (List.mem_filter.1 hq).1]
theorem sets_vals {l cs : List Rw} (h : ∀ r ∈ l, r.val ≠ []) : ∀ r ∈ sets l cs, r.val ≠ [] := by
  intro r hr
  rcases mem_sets hr with h1 | ⟨_, h1⟩
  · exact h r h1
  · exact h1
theorem sets_same {t cs ds : List Rw} (hs : srt t) (hv : ∀ r ∈ t, r.val ≠ []) (h : ∀ k d, lastOf cs k d = lastOf ds k d) : sets t cs = sets t ds :=
  look_ext (srt_sets hs) (srt_sets hs) (sets_vals hv) (sets_vals hv) fun k => by rw [look_sets hs, look_sets hs, h]
theorem sets_settled {t : List Rw} (hs : srt t) (hv : ∀ r ∈ t, r.val ≠ []) (cs : List Rw) : sets t (settledR cs) = sets t cs :=
  sets_same hs hv fun k d => lastOf_settled k cs d
theorem mem_settled {q : Rw} {cs : List Rw} (h : q ∈ settledR cs) : q ∈ cs := by
  rcases List.mem_append.1 h with h | h
  · exact mem_keep (List.mem_filter.1 h).1
  · exact mem_keep (List.mem_filter.1 h).1
theorem settled_good {cs : List Rw} (h : goodC cs = true) : goodC (settledR cs) = true :=
  List.all_eq_true.2 fun q hq => List.all_eq_true.1 h q (mem_settled hq)
theorem keep_len : ∀ l : List Rw, (keepL l).length ≤ l.length
  | [] => Nat.le_refl _
  | r :: l => by
    have := keep_len l
    unfold keepL
    split
    · simp; omega
    · simp; omega
theorem settled_len (cs : List Rw) : (settledR cs).length ≤ cs.length := by
  have h := keep_len cs
  have h2 : ∀ l : List Rw, (l.filter gone).length + (l.filter (fun r => !gone r)).length = l.length := by
    intro l
    induction l with
    | nil => rfl
    | cons r l ih => cases hg : gone r <;> simp [hg] <;> omega
  unfold settledR
  rw [List.length_append, h2]; exact h
/-! ### the number of rows on the way -/
theorem setR_shrink {c : Rw} (l : List Rw) (h : gone c = true) : (setR c l).length ≤ l.length := by
  rw [setR_len, if_pos (by simpa [gone] using h)]; omega
theorem setR_grow {c : Rw} (l : List Rw) (h : gone c = false) : l.length ≤ (setR c l).length := by
  have := hit_le c.key l
  rw [setR_len, if_neg (by simpa [gone] using h)]; omega
theorem sets_shrink : ∀ {cs l : List Rw}, (∀ c ∈ cs, gone c = true) → (sets l cs).length ≤ l.length
  | [], _, _ => Nat.le_refl _
  | c :: cs, l, h => Nat.le_trans (sets_shrink (cs := cs) fun q hq => h q (by simp [hq])) (setR_shrink l (h c (by simp)))
theorem sets_grow : ∀ {cs l : List Rw}, (∀ c ∈ cs, gone c = false) → l.length ≤ (sets l cs).length
  | [], _, _ => Nat.le_refl _
  | c :: cs, l, h => Nat.le_trans (setR_grow l (h c (by simp))) (sets_grow (cs := cs) fun q hq => h q (by simp [hq]))
theorem sets_mid {t a b : List Rw} (ha : ∀ c ∈ a, gone c = true) (hb : ∀ c ∈ b, gone c = false) (j : Nat) :
    (sets t ((a ++ b).take j)).length ≤ t.length ∨ (sets t ((a ++ b).take j)).length ≤ (sets t (a ++ b)).length := by
  rcases Nat.le_total j a.length with h | h
  · left
    rw [List.take_append_of_le_length h]
    exact sets_shrink fun c hc => ha c (List.mem_of_mem_take hc)
  · right
    have e : a ++ b = (a ++ b).take j ++ (a ++ b).drop j := (List.take_append_drop _ _).symm
    conv => rhs; rw [e, sets_app]
    refine sets_grow fun c hc => ?_
    rw [List.drop_append, List.drop_of_length_le h, List.nil_append] at hc
    exact hb c (List.mem_of_mem_drop hc)
theorem settled_mid {t cs : List Rw} (ht : t.length ≤ 40) (hf : (sets t (settledR cs)).length ≤ 40) (j : Nat) : (sets t ((settledR cs).take j)).length ≤ 40 := by
  have h := sets_mid (t := t) (a := (keepL cs).filter gone) (b := (keepL cs).filter (fun r => !gone r)) (fun c hc => (List.mem_filter.1 hc).2) (fun c hc => by simpa using (List.mem_filter.1 hc).2) j
  unfold settledR at *
  omega
/-! ### recovering -/
def applyR (t : List Rw) (bs : List (List UInt8)) : Option (List Rw) :=
  if goodBs bs = true then (if 40 < (sets t (bs.map chgF)).length then none else some (sets t (bs.map chgF))) else none
def recGo (t : List Rw) : List (List (List UInt8)) → Option (List Rw)
  | [] => some t
  | b :: l => (applyR t b).bind fun t' => recGo t' l
theorem recGo_app (l m : List (List (List UInt8))) : ∀ t, recGo t (l ++ m) = (recGo t l).bind fun t' => recGo t' m := by
  induction l with
  | nil => intro t; rfl
  | cons b l ih =>
    intro t
    show (applyR t b).bind _ = ((applyR t b).bind _).bind _
    cases applyR t b with
    | none => rfl
    | some t' => exact ih t'
theorem recGo_one (t : List Rw) (b : List (List UInt8)) : recGo t [b] = applyR t b := by
  show (applyR t b).bind _ = _
  cases applyR t b <;> rfl
theorem recGo_snoc (l : List (List (List UInt8))) (b : List (List UInt8)) (t : List Rw) : recGo t (l ++ [b]) = (recGo t l).bind fun t' => applyR t' b := by
  rw [recGo_app]; simp only [recGo_one]
def recoverR (b : List UInt8) : List Rw × Nat × Int :=
  if 1200 < b.length then ([], 0, 1) else match recGo [] (scan b).1 with | none => ([], 0, 4) | some t => (t, (scan b).2, 0)
theorem fit_sets {t cs : List Rw} (ht : Fit t) (hc : goodC cs = true) (h : (sets t cs).length ≤ 40) : Fit (sets t cs) :=
  ⟨h, fun r hr => by
    rcases mem_sets hr with h1 | ⟨h1, h2⟩
    · exact ht.good r h1
    · exact ⟨List.all_eq_true.1 hc r h1, h2⟩, srt_sets ht.srt⟩
theorem fit_nil : Fit [] := ⟨by simp, by simp, trivial⟩
theorem applyR_fit {t t' : List Rw} {bs : List (List UInt8)} (ht : Fit t) (h : applyR t bs = some t') : Fit t' := by
  unfold applyR at h
  split at h
  · rename_i hg
    split at h
    · cases h
    · injection h with h
      subst h
      exact fit_sets ht (goodC_map hg) (by omega)
  · cases h
theorem recGo_fit : ∀ {l : List (List (List UInt8))} {t t' : List Rw}, Fit t → recGo t l = some t' → Fit t'
  | [], t, t', ht, h => by injection h with h; exact h ▸ ht
  | b :: l, t, t', ht, h => by
    change (applyR t b).bind _ = _ at h
    cases ha : applyR t b with
    | none => rw [ha] at h; cases h
    | some x => rw [ha] at h; exact recGo_fit (applyR_fit ht ha) h
theorem recGo_take {l : List (List (List UInt8))} {t : List Rw} {k : Nat} (h : recGo t (l.take k) = none) : recGo t l = none := by
  rw [← List.take_append_drop k l, recGo_app, h]; rfl
/-! ### acts -/
structure Ac where
  kind : Int
  rows : List Rw
  key : List UInt8
  n : Int
def planE (t cs : List Rw) : Int := if cs = [] then 1 else (setN t cs).2
def pkF (t : List Rw) : List UInt8 := (packR (batOf t)).1
def actR (s : List Rw × List UInt8) (a : Ac) : (Int × List Rw) × (List Rw × List UInt8) :=
  if a.kind = 1 then (if planE s.1 a.rows ≠ 0 then ((planE s.1 a.rows, []), s) else if 1200 < s.2.length + (pkF a.rows).length then ((10, []), s) else ((0, []), (sets s.1 a.rows, s.2 ++ pkF a.rows)))
  else if a.kind = 2 then (if look s.1 a.key = [] then ((8, []), s) else ((0, [⟨a.key, look s.1 a.key⟩]), s))
  else if a.kind = 3 then ((0, s.1.filter (fun r => a.key.isPrefixOf r.key)), s)
  else if a.kind = 4 then ((0, []), (s.1, pkF s.1))
  else if a.kind = 5 then (if a.n < 0 then ((2, []), s) else if planE s.1 a.rows ≠ 0 then ((planE s.1 a.rows, []), s) else if 1200 < s.2.length + (pkF a.rows).length then ((10, []), s)
    else if a.n < (pkF a.rows).length then ((0, []), s) else ((0, []), (sets s.1 a.rows, s.2 ++ pkF a.rows)))
  else ((3, []), s)
def actsR (s : List Rw × List UInt8) : List Ac → List (Int × List Rw) × (List Rw × List UInt8)
  | [] => ([], s)
  | a :: l => ((actR s a).1 :: (actsR (actR s a).2 l).1, (actsR (actR s a).2 l).2)
theorem actsR_app : ∀ (l m : List Ac) (s : List Rw × List UInt8), actsR s (l ++ m) = ((actsR s l).1 ++ (actsR (actsR s l).2 m).1, (actsR (actsR s l).2 m).2)
  | [], _, _ => rfl
  | a :: l, m, s => by
    simp only [List.cons_append, actsR, actsR_app l m]
theorem actsR_len : ∀ (l : List Ac) (s : List Rw × List UInt8), (actsR s l).1.length = l.length
  | [], _ => rfl
  | a :: l, s => by simp only [actsR, List.length_cons, actsR_len l]
theorem actsR_snoc (l : List Ac) (a : Ac) (s : List Rw × List UInt8) : actsR s (l ++ [a]) = ((actsR s l).1 ++ [(actR (actsR s l).2 a).1], (actR (actsR s l).2 a).2) := actsR_app l [a] s
/-! ### a file and its table -/
def okCs (cs : List Rw) : Prop := cs ≠ [] ∧ cs.length ≤ 60 ∧ goodC cs = true
def filOf (css : List (List Rw)) : List UInt8 := packs (css.map batOf)
structure Kept (css : List (List Rw)) (s : List Rw × List UInt8) : Prop where
  ok : ∀ cs ∈ css, okCs cs
  file : s.2 = filOf css
  table : recGo [] (css.map batOf) = some s.1
  size : s.2.length ≤ 1200
def Kp (s : List Rw × List UInt8) : Prop := ∃ css, Kept css s
def st0 : List Rw × List UInt8 := ([], [])
theorem kp0 : Kp st0 := ⟨[], by simp, rfl, rfl, by simp [st0]⟩
theorem okB_bat {cs : List Rw} (h : okCs cs) : okB (batOf cs) = true := by
  unfold okB
  have h1 : (batOf cs).length = cs.length := by simp [batOf]
  have h0 := List.length_pos_iff.2 h.1
  rw [h1, decide_eq_true (by omega), decide_eq_true h.2.1, Bool.true_and, Bool.true_and, List.all_eq_true]
  intro b hb
  rw [recB_ok]
  exact bat_ok h.2.2 b hb
theorem pkF_ok {cs : List Rw} (h : okCs cs) : pkF cs = pack (batOf cs) := by unfold pkF packR; rw [if_pos (okB_bat h)]
theorem pkF_nil : pkF [] = [] := by unfold pkF packR; rw [if_neg (by decide)]
theorem okBatch_bat {cs : List Rw} (h : okCs cs) : okBatch (batOf cs) := ⟨by intro e; exact h.1 (by simpa [batOf] using e), bat_ok h.2.2⟩
theorem okBatch_all {css : List (List Rw)} (h : ∀ cs ∈ css, okCs cs) : ∀ b ∈ css.map batOf, okBatch b := by
  intro b hb
  obtain ⟨cs, hc, rfl⟩ := List.mem_map.1 hb
  exact okBatch_bat (h cs hc)
theorem applyR_bat {t cs : List Rw} (h : goodC cs = true) : applyR t (batOf cs) = if 40 < (sets t cs).length then none else some (sets t cs) := by
  unfold applyR; rw [if_pos (goodBs_bat h), map_bat h]
section
variable {css : List (List Rw)} {s : List Rw × List UInt8}
theorem Kept.fit (h : Kept css s) : Fit s.1 := recGo_fit fit_nil h.table
theorem Kept.scan (h : Kept css s) : scan s.2 = (css.map batOf, s.2.length) := by
  have := scan_whole _ (okBatch_all h.ok)
  rw [h.file]; exact this
theorem Kept.recover (h : Kept css s) : recoverR s.2 = (s.1, s.2.length, 0) := by
  unfold recoverR
  have := h.size
  rw [if_neg (by omega), h.scan]
  simp only [h.table]
theorem scan_torn1 {b : List (List UInt8)} (hb : okBatch b) {n : Nat} (hn : n < (pack b).length) : Go.Proofs.Ytploicbiapjfdaa.scan ((pack b).take n) = ([], 0) := by
  unfold Go.Proofs.Ytploicbiapjfdaa.scan pack
  exact scn_torn b hb.2 _ 0 (by omega) _ (by unfold pack at hn; omega) _ _ _ _
theorem Kept.torn (h : Kept css s) {cs : List Rw} (hc : okCs cs) {n : Nat} (hn : n < (pkF cs).length) (hs : s.2.length + (pkF cs).length ≤ 1200) : recoverR (s.2 ++ (pkF cs).take n) = (s.1, s.2.length, 0) := by
  rw [pkF_ok hc] at *
  have hl : (s.2 ++ (pack (batOf cs)).take n).length ≤ 1200 := by rw [List.length_append, List.length_take]; omega
  unfold recoverR
  rw [if_neg (by omega)]
  have h1 : Go.Proofs.Ytploicbiapjfdaa.scan (s.2 ++ (pack (batOf cs)).take n) = (css.map batOf, s.2.length) := by
    have h2 := scan_packs _ (okBatch_all h.ok) ((pack (batOf cs)).take n)
    rw [scan_torn1 (okBatch_bat hc) hn] at h2
    rw [h.file]
    unfold filOf
    simpa using h2
  rw [h1]
  simp only [h.table]
theorem Kept.commit (h : Kept css s) {cs : List Rw} (hc : okCs cs) (ht : (sets s.1 cs).length ≤ 40) (hs : s.2.length + (pkF cs).length ≤ 1200) : Kept (css ++ [cs]) (sets s.1 cs, s.2 ++ pkF cs) := by
  refine ⟨?_, ?_, ?_, ?_⟩
  · intro x hx
    rcases List.mem_append.1 hx with hx | hx
    · exact h.ok x hx
    · simp at hx; exact hx ▸ hc
  · show s.2 ++ pkF cs = _
    rw [h.file, pkF_ok hc]
    unfold filOf
    rw [List.map_append, packs_app]
    simp [packs]
  · rw [List.map_append]
    show recGo [] (css.map batOf ++ [batOf cs]) = _
    rw [recGo_snoc, h.table]
    show applyR s.1 (batOf cs) = _
    rw [applyR_bat hc.2.2, if_neg (by omega)]
  · show (s.2 ++ pkF cs).length ≤ 1200
    rw [List.length_append]; exact hs
theorem recover_whole (h : Kept css s) {cs : List Rw} (hc : okCs cs) (ht : (sets s.1 cs).length ≤ 40) (hs : s.2.length + (pkF cs).length ≤ 1200) : recoverR (s.2 ++ pkF cs) = (sets s.1 cs, (s.2 ++ pkF cs).length, 0) :=
  (h.commit hc ht hs).recover
end
/-! ### a table packed anew -/
def wt (r : Rw) : Nat := r.key.length + r.val.length + 5
def wts (l : List Rw) : Nat := (l.map wt).sum
theorem wts_app (a b : List Rw) : wts (a ++ b) = wts a + wts b := by simp [wts]
theorem wts_cons (r : Rw) (l : List Rw) : wts (r :: l) = wt r + wts l := by simp [wts]
theorem wts_setR (c : Rw) : ∀ l : List Rw, wts (setR c l) ≤ wts l + wt c
  | [] => by
    unfold setR
    split
    · simp [wts]
    · simp [wts]
  | r :: l => by
    have := wts_setR c l
    unfold setR
    split
    · rw [wts_cons, wts_cons]; omega
    · split
      · split
        · rw [wts_cons]; omega
        · rw [wts_cons, wts_cons]; omega
      · split
        · omega
        · rw [wts_cons c]; omega
theorem wts_sets : ∀ (cs l : List Rw), wts (sets l cs) ≤ wts l + wts cs
  | [], _ => by simp [sets, wts]
  | c :: cs, l => by
    have h1 := wts_sets cs (setR c l)
    have h2 := wts_setR c l
    rw [sets_cons, wts_cons]; omega
theorem pack_wts (cs : List Rw) : (pack (batOf cs)).length = wts cs := by
  rw [pack_len]
  unfold batOf wts
  rw [List.map_map]
  congr 1
  apply List.map_congr_left
  intro r _
  simp [wt, rec_len]
theorem recGo_wts : ∀ {css : List (List Rw)} {t t' : List Rw}, (∀ cs ∈ css, okCs cs) → recGo t (css.map batOf) = some t' → wts t' ≤ wts t + (filOf css).length
  | [], t, t', _, h => by injection h with h; subst h; omega
  | cs :: css, t, t', hok, h => by
    have hc := hok cs (by simp)
    change (applyR t (batOf cs)).bind _ = _ at h
    rw [applyR_bat hc.2.2] at h
    have e : (filOf (cs :: css)).length = wts cs + (filOf css).length := by
      unfold filOf packs
      rw [List.map_cons, List.map_cons, List.flatten_cons, List.length_append, pack_wts]
    split at h
    · cases h
    · have h1 := recGo_wts (fun x hx => hok x (by simp [hx])) h
      have h2 := wts_sets cs t
      omega
theorem Fit.okCs {t : List Rw} (h : Fit t) (h0 : t ≠ []) : okCs t := ⟨h0, by have := h.len; omega, List.all_eq_true.2 fun r hr => (h.good r hr).1⟩
theorem pkF_len {t : List Rw} (h : Fit t) : (pkF t).length = wts t := by
  by_cases h0 : t = []
  · subst h0; rw [pkF_nil]; rfl
  · rw [pkF_ok (h.okCs h0), pack_wts]
/-- Rows set into an empty table in their order make the table. -/
theorem setR_last {c : Rw} (hc : c.val ≠ []) : ∀ {l : List Rw}, (∀ r ∈ l, Op.bytesLess r.key c.key = true) → setR c l = l ++ [c]
  | [], _ => by unfold setR; rw [if_neg hc]; rfl
  | r :: l, h => by
    unfold setR
    rw [if_pos (h r (by simp)), setR_last hc fun q hq => h q (by simp [hq])]; rfl
theorem srt_app : ∀ {a b : List Rw}, srt (a ++ b) → ∀ r ∈ a, ∀ q ∈ b, Op.bytesLess r.key q.key = true
  | [], _, _, r, hr => by simp at hr
  | x :: a, b, h, r, hr => by
    intro q hq
    have h' : srt (x :: (a ++ b)) := h
    rcases List.mem_cons.1 hr with rfl | hr
    · exact h'.1 q (by simp [hq])
    · exact srt_app h'.2 r hr q hq
theorem sets_table : ∀ {b a : List Rw}, srt (a ++ b) → (∀ r ∈ b, r.val ≠ []) → sets a b = a ++ b
  | [], a, _, _ => by simp [sets]
  | r :: b, a, h, hv => by
    rw [sets_cons, setR_last (hv r (by simp)) fun q hq => srt_app h q hq r (by simp)]
    rw [sets_table (b := b) (a := a ++ [r]) (by simpa using h) fun q hq => hv q (by simp [hq])]
    simp
theorem sets_self {t : List Rw} (h : Fit t) : sets [] t = t := sets_table (a := []) h.srt fun r hr => (h.good r hr).2
theorem Kept.pack {css : List (List Rw)} {s : List Rw × List UInt8} (h : Kept css s) : Kept (if s.1 = [] then [] else [s.1]) (s.1, pkF s.1) := by
  have hf := h.fit
  have hw := recGo_wts h.ok h.table
  have hl := h.size
  rw [h.file] at hl
  have hs : (pkF s.1).length ≤ 1200 := by rw [pkF_len hf]; simp [wts] at hw ⊢; omega
  by_cases h0 : s.1 = []
  · rw [if_pos h0, h0, pkF_nil]
    exact ⟨by simp, rfl, rfl, by simp⟩
  · rw [if_neg h0]
    have hc := hf.okCs h0
    refine ⟨by simp [hc], ?_, ?_, hs⟩
    · show pkF s.1 = _
      rw [pkF_ok hc]; simp [filOf, packs]
    · show recGo [] [batOf s.1] = _
      rw [recGo_one, applyR_bat hc.2.2, sets_self hf, if_neg (by have := hf.len; omega)]
/-! ### every act keeps file and table together -/
theorem setN_fit {t cs : List Rw} (ht : Fit t) : setN t cs = if 60 < cs.length ∨ goodC cs = false then ([], 1) else if 40 < (sets t cs).length then ([], 10) else (sets t cs, 0) := by
  unfold setN; rw [if_neg (by simp [ht.chk])]
theorem plan_ok {t cs : List Rw} (ht : Fit t) (h : planE t cs = 0) : okCs cs ∧ (sets t cs).length ≤ 40 ∧ setN t cs = (sets t cs, 0) := by
  unfold planE at h
  split at h
  · cases h
  · rename_i h0
    rw [setN_fit ht] at h ⊢
    split at h
    · cases h
    · rename_i h1
      split at h
      · cases h
      · rename_i h2
        have hg : goodC cs = true := by cases hg : goodC cs <;> simp_all
        exact ⟨⟨h0, by omega, hg⟩, by omega, by rw [if_neg h1, if_neg h2]⟩
theorem Kp.act {s : List Rw × List UInt8} (h : Kp s) (a : Ac) : Kp (actR s a).2 := by
  obtain ⟨css, h⟩ := h
  have hc : planE s.1 a.rows = 0 → ¬ 1200 < s.2.length + (pkF a.rows).length → Kp (sets s.1 a.rows, s.2 ++ pkF a.rows) := fun h1 h2 =>
    have hp := plan_ok h.fit h1
    ⟨_, h.commit hp.1 hp.2.1 (by omega)⟩
  unfold actR
  split
  · split
    · exact ⟨css, h⟩
    · rename_i h1
      split
      · exact ⟨css, h⟩
      · rename_i h2
        exact hc (by simpa using h1) h2
  · split
    · split <;> exact ⟨css, h⟩
    · split
      · exact ⟨css, h⟩
      · split
        · exact ⟨_, h.pack⟩
        · split
          · split
            · exact ⟨css, h⟩
            · split
              · exact ⟨css, h⟩
              · rename_i h1
                split
                · exact ⟨css, h⟩
                · rename_i h2
                  split
                  · exact ⟨css, h⟩
                  · exact hc (by simpa using h1) h2
          · exact ⟨css, h⟩
theorem Kp.acts : ∀ (l : List Ac) {s : List Rw × List UInt8}, Kp s → Kp (actsR s l).2
  | [], _, h => h
  | a :: l, _, h => Kp.acts l (h.act a)
theorem Kp.fit {s : List Rw × List UInt8} (h : Kp s) : Fit s.1 := by obtain ⟨_, h⟩ := h; exact h.fit
end Go.Proofs.Ytploicbiapjfdaa
