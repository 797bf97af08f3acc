/- Joined texts: StM, StChk, StCkM. -/
import Derived.Test.YtmlgaedhfannmaaBunRA
import Derived.Test.YtmlgaedhfannmaaRwSetM
import Derived.Test.YtmlgaedhfannmaaBunWC
import Derived.RangeFuncNested
import Derived.RangeFuncBound
import Derived.RangeFuncCalls
import Derived.RangeFuncLeaves
import Derived.Shelf.Abstract
import Derived.Shelf.RegionOpen
import Derived.OwnWalkIn
import Derived.TacticsInMore
import Derived.LoopNIn
import Derived.LoopIn
import Derived.Test.YtmlgaedhfannmaaRwApp
/- The store: its mathematics (records, batches, what recovering does, what acts do). Nothing of the program is named here. -/
namespace Go.Proofs.Ytmlgaedhfannmaa
set_option linter.unusedVariables false
set_option linter.unusedSimpArgs false
open Go.RowKit
/-! ### records -/
def recOf (r : Rw) : List UInt8 := UInt8.ofNat r.key.length :: (r.key ++ r.val)
def batOf (cs : List Rw) : List (List UInt8) := cs.map recOf
def rw0 : Rw := ⟨[], []⟩
/-- The change that a record is. -/
def chgOf (b : List UInt8) : Option Rw :=
  match b with
  | [] => none
  | n :: rest => if 1 ≤ n.toNat ∧ n.toNat ≤ 20 ∧ n.toNat ≤ rest.length ∧ rest.length ≤ n.toNat + 20 then some ⟨rest.take n.toNat, rest.drop n.toNat⟩ else none
def chgF (b : List UInt8) : Rw := (chgOf b).getD rw0
def goodBs (bs : List (List UInt8)) : Bool := bs.all (fun b => (chgOf b).isSome)
theorem sized_iff (r : Rw) : sizedR r = true ↔ 1 ≤ r.key.length ∧ r.key.length ≤ 20 ∧ r.val.length ≤ 20 := by
  unfold sizedR
  cases h : r.key <;> simp
theorem chgOf_sized {b : List UInt8} {r : Rw} (h : chgOf b = some r) : sizedR r = true := by
  match b, h with
  | n :: rest, h =>
    simp only [chgOf] at h
    split at h
    case isFalse => cases h
    case isTrue hc =>
      injection h with h
      subst h
      rw [sized_iff]
      simp only [List.length_take, List.length_drop]
      omega
theorem chgF_sized {b : List UInt8} (h : (chgOf b).isSome = true) : sizedR (chgF b) = true := by
  obtain ⟨r, hr⟩ := Option.isSome_iff_exists.1 h
  unfold chgF; rw [hr]; exact chgOf_sized hr
theorem chg_rec {r : Rw} (h : sizedR r = true) : chgOf (recOf r) = some r := by
  rw [sized_iff] at h
  have hn : (UInt8.ofNat r.key.length).toNat = r.key.length := by rw [UInt8.toNat_ofNat']; exact Nat.mod_eq_of_lt (by omega)
  unfold recOf chgOf
  simp only
  rw [hn, if_pos (by rw [List.length_append]; omega), List.take_left', List.drop_left']
  · rfl
  · rfl
theorem chgF_rec {r : Rw} (h : sizedR r = true) : chgF (recOf r) = r := by unfold chgF; rw [chg_rec h]; rfl
theorem rec_len (r : Rw) : (recOf r).length = r.key.length + r.val.length + 1 := by simp [recOf]
theorem rec_ok {r : Rw} (h : sizedR r = true) : okRec (recOf r) := by
  rw [sized_iff] at h
  unfold okRec; rw [rec_len]; omega
theorem goodBs_bat {cs : List Rw} (h : goodC cs = true) : goodBs (batOf cs) = true := by
  unfold goodBs batOf
  rw [List.all_map, List.all_eq_true]
  intro r hr
  have := List.all_eq_true.1 h r hr
  simp [chg_rec this]
theorem map_bat : ∀ {cs : List Rw}, goodC cs = true → (batOf cs).map chgF = cs
  | [], _ => rfl
  | r :: cs, h => by
    have h1 := List.all_eq_true.1 h r (by simp)
    have h2 : goodC cs = true := List.all_eq_true.2 fun q hq => List.all_eq_true.1 h q (by simp [hq])
    show chgF (recOf r) :: (batOf cs).map chgF = _
    rw [chgF_rec h1, map_bat h2]
theorem goodC_map {bs : List (List UInt8)} (h : goodBs bs = true) : goodC (bs.map chgF) = true := by
  unfold goodC
  rw [List.all_map, List.all_eq_true]
  intro b hb
  exact chgF_sized (List.all_eq_true.1 h b hb)
theorem bat_ok {cs : List Rw} (h : goodC cs = true) : ∀ b ∈ batOf cs, okRec b := by
  intro b hb
  obtain ⟨r, hr, rfl⟩ := List.mem_map.1 hb
  exact rec_ok (List.all_eq_true.1 h r hr)
/-! ### the last change of each key -/
theorem lastOf_app (k : List UInt8) : ∀ (a b : List Rw) (d : List UInt8), lastOf (a ++ b) k d = lastOf b k (lastOf a k d)
  | [], _, _ => rfl
  | _ :: a, b, d => lastOf_app k a b _
theorem lastOf_none {k : List UInt8} : ∀ {l : List Rw} {d : List UInt8}, (∀ c ∈ l, c.key ≠ k) → lastOf l k d = d
  | [], _, _ => rfl
  | c :: l, d, h => by
    unfold lastOf
    rw [if_neg (h c (by simp)), lastOf_none fun q hq => h q (by simp [hq])]
theorem lastOf_of {k : List UInt8} {c : Rw} (hk : c.key = k) : ∀ {l : List Rw} {d : List UInt8}, c ∈ l → (∀ q ∈ l, q.key = k → q = c) → lastOf l k d = c.val
  | [], _, h, _ => by simp at h
  | a :: l, d, h, hu => by
    unfold lastOf
    by_cases hc : c ∈ l
    · exact lastOf_of hk hc fun q hq => hu q (by simp [hq])
    · have ha : a = c := by
        rcases List.mem_cons.1 h with h | h
        · exact h.symm
        · exact absurd h hc
      rw [ha, if_pos hk]
      exact lastOf_none fun q hq e => hc (by rw [← hu q (by simp [hq]) e]; exact hq)
theorem lastOf_has {k : List UInt8} : ∀ {l : List Rw} (d e : List UInt8), (∃ q ∈ l, q.key = k) → lastOf l k d = lastOf l k e
  | [], _, _, h => by simp at h
  | c :: l, d, e, h => by
    unfold lastOf
    by_cases hk : c.key = k
    · rw [if_pos hk, if_pos hk]
    · rw [if_neg hk, if_neg hk]
      obtain ⟨q, hq, hqk⟩ := h
      rcases List.mem_cons.1 hq with rfl | hq
      · exact absurd hqk hk
      · exact lastOf_has d e ⟨q, hq, hqk⟩
/-- Is there a later one of the key? -/
def more (r : Rw) (l : List Rw) : Bool := l.any (fun q => q.key == r.key)
def keepL : List Rw → List Rw
  | [] => []
  | r :: l => if more r l = true then keepL l else r :: keepL l
def gone (r : Rw) : Bool := r.val.isEmpty
def settledR (cs : List Rw) : List Rw := (keepL cs).filter gone ++ (keepL cs).filter (fun r => !gone r)
theorem more_iff {r : Rw} {l : List Rw} : more r l = true ↔ ∃ q ∈ l, q.key = r.key := by simp [more]
theorem mem_keep {q : Rw} : ∀ {l : List Rw}, q ∈ keepL l → q ∈ l
  | [], h => h
  | r :: l, h => by
    unfold keepL at h
    split at h
    · exact List.mem_cons_of_mem _ (mem_keep h)
    · rcases List.mem_cons.1 h with rfl | h
      · simp
      · exact List.mem_cons_of_mem _ (mem_keep h)
theorem keep_one : ∀ {l : List Rw} {p q : Rw}, p ∈ keepL l → q ∈ keepL l → p.key = q.key → p = q
  | [], _, _, h, _, _ => by simp [keepL] at h
  | r :: l, p, q, hp, hq, e => by
    unfold keepL at hp hq
    split at hp
    · rename_i hm
      rw [if_pos hm] at hq
      exact keep_one hp hq e
    · rename_i hm
      rw [if_neg hm] at hq
      rcases List.mem_cons.1 hp with hp1 | hp1
      · rcases List.mem_cons.1 hq with hq1 | hq1
        · rw [hp1, hq1]
        · exact absurd (more_iff.2 ⟨q, mem_keep hq1, by rw [← e, hp1]⟩) hm
      · rcases List.mem_cons.1 hq with hq1 | hq1
        · exact absurd (more_iff.2 ⟨p, mem_keep hp1, by rw [e, hq1]⟩) hm
        · exact keep_one hp1 hq1 e
theorem lastOf_keep (k : List UInt8) : ∀ (l : List Rw) (d : List UInt8), lastOf (keepL l) k d = lastOf l k d
  | [], _ => rfl
  | r :: l, d => by
    unfold keepL
    by_cases hm : more r l = true
    · rw [if_pos hm, lastOf_keep k l d]
      conv => rhs; unfold lastOf
      by_cases hk : r.key = k
      · rw [if_pos hk]
        exact lastOf_has _ _ (hk ▸ more_iff.1 hm)
      · rw [if_neg hk]
    · rw [if_neg hm]
      show lastOf (keepL l) k _ = lastOf l k _
      exact lastOf_keep k l _
theorem lastOf_settled (k : List UInt8) (l : List Rw) (d : List UInt8) : lastOf (settledR l) k d = lastOf l k d := by
  rw [← lastOf_keep k l d]
  unfold settledR
  rw [lastOf_app]
  by_cases h : ∃ c ∈ keepL l, c.key = k
  · obtain ⟨c, hc, hk⟩ := h
    have hu : ∀ q ∈ keepL l, q.key = k → q = c := fun q hq e => keep_one hq hc (e.trans hk.symm)
    rw [lastOf_of hk hc hu]
    cases hg : gone c with
    | true =>
      rw [lastOf_of hk (List.mem_filter.2 ⟨hc, hg⟩) fun q hq e => hu q (List.mem_filter.1 hq).1 e]
      refine lastOf_none fun q hq e => ?_
      obtain ⟨h1, h2⟩ := List.mem_filter.1 hq
      rw [hu q h1 e, hg] at h2; cases h2
    | false => exact lastOf_of hk (List.mem_filter.2 ⟨hc, by rw [hg]; rfl⟩) fun q hq e => hu q (List.mem_filter.1 hq).1 e
  · have hn : ∀ c ∈ keepL l, c.key ≠ k := fun c hc e => h ⟨c, hc, e⟩
    rw [lastOf_none hn, lastOf_none fun q hq => hn q (List.mem_filter.1 hq).1, lastOf_none fun q hq => hn q (List.mem_filter.1 hq).1]
theorem sets_vals {l cs : List Rw} (h : ∀ r ∈ l, r.val ≠ []) : ∀ r ∈ sets l cs, r.val ≠ [] := by
  intro r hr
  rcases mem_sets hr with h1 | ⟨_, h1⟩
  · exact h r h1
  · exact h1
theorem sets_same {t cs ds : List Rw} (hs : srt t) (hv : ∀ r ∈ t, r.val ≠ []) (h : ∀ k d, lastOf cs k d = lastOf ds k d) : sets t cs = sets t ds :=
  look_ext (srt_sets hs) (srt_sets hs) (sets_vals hv) (sets_vals hv) fun k => by rw [look_sets hs, look_sets hs, h]
theorem sets_settled {t : List Rw} (hs : srt t) (hv : ∀ r ∈ t, r.val ≠ []) (cs : List Rw) : sets t (settledR cs) = sets t cs :=
  sets_same hs hv fun k d => lastOf_settled k cs d
theorem mem_settled {q : Rw} {cs : List Rw} (h : q ∈ settledR cs) : q ∈ cs := by
  rcases List.mem_append.1 h with h | h
  · exact mem_keep (List.mem_filter.1 h).1
  · exact mem_keep (List.mem_filter.1 h).1
theorem settled_good {cs : List Rw} (h : goodC cs = true) : goodC (settledR cs) = true :=
  List.all_eq_true.2 fun q hq => List.all_eq_true.1 h q (mem_settled hq)
theorem keep_len : ∀ l : List Rw, (keepL l).length ≤ l.length
  | [] => Nat.le_refl _
  | r :: l => by
    have := keep_len l
    unfold keepL
    split
    · simp; omega
    · simp; omega
theorem settled_len (cs : List Rw) : (settledR cs).length ≤ cs.length := by
  have h := keep_len cs
  have h2 : ∀ l : List Rw, (l.filter gone).length + (l.filter (fun r => !gone r)).length = l.length := by
    intro l
    induction l with
    | nil => rfl
    | cons r l ih => cases hg : gone r <;> simp [hg] <;> omega
  unfold settledR
  rw [List.length_append, h2]; exact h
/-! ### the number of rows on the way -/
theorem setR_shrink {c : Rw} (l : List Rw) (h : gone c = true) : (setR c l).length ≤ l.length := by
  rw [setR_len, if_pos (by simpa [gone] using h)]; omega
theorem setR_grow {c : Rw} (l : List Rw) (h : gone c = false) : l.length ≤ (setR c l).length := by
  have := hit_le c.key l
  rw [setR_len, if_neg (by simpa [gone] using h)]; omega
theorem sets_shrink : ∀ {cs l : List Rw}, (∀ c ∈ cs, gone c = true) → (sets l cs).length ≤ l.length
  | [], _, _ => Nat.le_refl _
  | c :: cs, l, h => Nat.le_trans (sets_shrink (cs := cs) fun q hq => h q (by simp [hq])) (setR_shrink l (h c (by simp)))
theorem sets_grow : ∀ {cs l : List Rw}, (∀ c ∈ cs, gone c = false) → l.length ≤ (sets l cs).length
  | [], _, _ => Nat.le_refl _
  | c :: cs, l, h => Nat.le_trans (setR_grow l (h c (by simp))) (sets_grow (cs := cs) fun q hq => h q (by simp [hq]))
theorem sets_mid {t a b : List Rw} (ha : ∀ c ∈ a, gone c = true) (hb : ∀ c ∈ b, gone c = false) (j : Nat) :
    (sets t ((a ++ b).take j)).length ≤ t.length ∨ (sets t ((a ++ b).take j)).length ≤ (sets t (a ++ b)).length := by
  rcases Nat.le_total j a.length with h | h
  · left
    rw [List.take_append_of_le_length h]
    exact sets_shrink fun c hc => ha c (List.mem_of_mem_take hc)
  · right
    have e : a ++ b = (a ++ b).take j ++ (a ++ b).drop j := (List.take_append_drop _ _).symm
    conv => rhs; rw [e, sets_app]
    refine sets_grow fun c hc => ?_
    rw [List.drop_append, List.drop_of_length_le h, List.nil_append] at hc
    exact hb c (List.mem_of_mem_drop hc)
theorem settled_mid {t cs : List Rw} (ht : t.length ≤ 40) (hf : (sets t (settledR cs)).length ≤ 40) (j : Nat) : (sets t ((settledR cs).take j)).length ≤ 40 := by
  have h := sets_mid (t := t) (a := (keepL cs).filter gone) (b := (keepL cs).filter (fun r => !gone r)) (fun c hc => (List.mem_filter.1 hc).2) (fun c hc => by simpa using (List.mem_filter.1 hc).2) j
  unfold settledR at *
  omega
/-! ### recovering -/
def applyR (t : List Rw) (bs : List (List UInt8)) : Option (List Rw) :=
  if goodBs bs = true then (if 40 < (sets t (bs.map chgF)).length then none else some (sets t (bs.map chgF))) else none
def recGo (t : List Rw) : List (List (List UInt8)) → Option (List Rw)
  | [] => some t
  | b :: l => (applyR t b).bind fun t' => recGo t' l
theorem recGo_app (l m : List (List (List UInt8))) : ∀ t, recGo t (l ++ m) = (recGo t l).bind fun t' => recGo t' m := by
  induction l with
  | nil => intro t; rfl
  | cons b l ih =>
    intro t
    show (applyR t b).bind _ = ((applyR t b).bind _).bind _
    cases applyR t b with
    | none => rfl
    | some t' => exact ih t'
theorem recGo_one (t : List Rw) (b : List (List UInt8)) : recGo t [b] = applyR t b := by
  show (applyR t b).bind _ = _
  cases applyR t b <;> rfl
theorem recGo_snoc (l : List (List (List UInt8))) (b : List (List UInt8)) (t : List Rw) : recGo t (l ++ [b]) = (recGo t l).bind fun t' => applyR t' b := by
  rw [recGo_app]; simp only [recGo_one]
def recoverR (b : List UInt8) : List Rw × Nat × Int :=
  if 1200 < b.length then ([], 0, 1) else match recGo [] (scan b).1 with | none => ([], 0, 4) | some t => (t, (scan b).2, 0)
theorem fit_sets {t cs : List Rw} (ht : Fit t) (hc : goodC cs = true) (h : (sets t cs).length ≤ 40) : Fit (sets t cs) :=
  ⟨h, fun r hr => by
    rcases mem_sets hr with h1 | ⟨h1, h2⟩
    · exact ht.good r h1
    · exact ⟨List.all_eq_true.1 hc r h1, h2⟩, srt_sets ht.srt⟩
theorem fit_nil : Fit [] := ⟨by simp, by simp, trivial⟩
theorem applyR_fit {t t' : List Rw} {bs : List (List UInt8)} (ht : Fit t) (h : applyR t bs = some t') : Fit t' := by
  unfold applyR at h
  split at h
  · rename_i hg
    split at h
    · cases h
    · injection h with h
      subst h
      exact fit_sets ht (goodC_map hg) (by omega)
  · cases h
theorem recGo_fit : ∀ {l : List (List (List UInt8))} {t t' : List Rw}, Fit t → recGo t l = some t' → Fit t'
  | [], t, t', ht, h => by injection h with h; exact h ▸ ht
  | b :: l, t, t', ht, h => by
    change (applyR t b).bind _ = _ at h
    cases ha : applyR t b with
    | none => rw [ha] at h; cases h
    | some x => rw [ha] at h; exact recGo_fit (applyR_fit ht ha) h
theorem recGo_take {l : List (List (List UInt8))} {t : List Rw} {k : Nat} (h : recGo t (l.take k) = none) : recGo t l = none := by
  rw [← List.take_append_drop k l, recGo_app, h]; rfl
/-! ### acts -/
structure Ac where
  kind : Int
  rows : List Rw
  key : List UInt8
  n : Int
def planE (t cs : List Rw) : Int := if cs = [] then 1 else (setN t cs).2
def pkF (t : List Rw) : List UInt8 := (packR (batOf t)).1
def actR (s : List Rw × List UInt8) (a : Ac) : (Int × List Rw) × (List Rw × List UInt8) :=
  if a.kind = 1 then (if planE s.1 a.rows ≠ 0 then ((planE s.1 a.rows, []), s) else if 1200 < s.2.length + (pkF a.rows).length then ((10, []), s) else ((0, []), (sets s.1 a.rows, s.2 ++ pkF a.rows)))
  else if a.kind = 2 then (if look s.1 a.key = [] then ((8, []), s) else ((0, [⟨a.key, look s.1 a.key⟩]), s))
  else if a.kind = 3 then ((0, s.1.filter (fun r => a.key.isPrefixOf r.key)), s)
  else if a.kind = 4 then ((0, []), (s.1, pkF s.1))
  else if a.kind = 5 then (if a.n < 0 then ((2, []), s) else if planE s.1 a.rows ≠ 0 then ((planE s.1 a.rows, []), s) else if 1200 < s.2.length + (pkF a.rows).length then ((10, []), s)
    else if a.n < (pkF a.rows).length then ((0, []), s) else ((0, []), (sets s.1 a.rows, s.2 ++ pkF a.rows)))
  else ((3, []), s)
def actsR (s : List Rw × List UInt8) : List Ac → List (Int × List Rw) × (List Rw × List UInt8)
  | [] => ([], s)
  | a :: l => ((actR s a).1 :: (actsR (actR s a).2 l).1, (actsR (actR s a).2 l).2)
theorem actsR_app : ∀ (l m : List Ac) (s : List Rw × List UInt8), actsR s (l ++ m) = ((actsR s l).1 ++ (actsR (actsR s l).2 m).1, (actsR (actsR s l).2 m).2)
  | [], _, _ => rfl
  | a :: l, m, s => by
    simp only [List.cons_append, actsR, actsR_app l m]
theorem actsR_len : ∀ (l : List Ac) (s : List Rw × List UInt8), (actsR s l).1.length = l.length
  | [], _ => rfl
  | a :: l, s => by simp only [actsR, List.length_cons, actsR_len l]
theorem actsR_snoc (l : List Ac) (a : Ac) (s : List Rw × List UInt8) : actsR s (l ++ [a]) = ((actsR s l).1 ++ [(actR (actsR s l).2 a).1], (actR (actsR s l).2 a).2) := actsR_app l [a] s
/-! ### a file and its table -/
def okCs (cs : List Rw) : Prop := cs ≠ [] ∧ cs.length ≤ 60 ∧ goodC cs = true
def filOf (css : List (List Rw)) : List UInt8 := packs (css.map batOf)
structure Kept (css : List (List Rw)) (s : List Rw × List UInt8) : Prop where
  ok : ∀ cs ∈ css, okCs cs
  file : s.2 = filOf css
  table : recGo [] (css.map batOf) = some s.1
  size : s.2.length ≤ 1200
def Kp (s : List Rw × List UInt8) : Prop := ∃ css, Kept css s
def st0 : List Rw × List UInt8 := ([], [])
theorem kp0 : Kp st0 := ⟨[], by simp, rfl, rfl, by simp [st0]⟩
theorem okB_bat {cs : List Rw} (h : okCs cs) : okB (batOf cs) = true := by
  unfold okB
  have h1 : (batOf cs).length = cs.length := by simp [batOf]
  have h0 := List.length_pos_iff.2 h.1
  rw [h1, decide_eq_true (by omega), decide_eq_true h.2.1, Bool.true_and, Bool.true_and, List.all_eq_true]
  intro b hb
  rw [recB_ok]
  exact bat_ok h.2.2 b hb
theorem pkF_ok {cs : List Rw} (h : okCs cs) : pkF cs = pack (batOf cs) := by unfold pkF packR; rw [if_pos (okB_bat h)]
theorem pkF_nil : pkF [] = [] := by unfold pkF packR; rw [if_neg (by decide)]
theorem okBatch_bat {cs : List Rw} (h : okCs cs) : okBatch (batOf cs) := ⟨by intro e; exact h.1 (by simpa [batOf] using e), bat_ok h.2.2⟩
theorem okBatch_all {css : List (List Rw)} (h : ∀ cs ∈ css, okCs cs) : ∀ b ∈ css.map batOf, okBatch b := by
  intro b hb
  obtain ⟨cs, hc, rfl⟩ := List.mem_map.1 hb
  exact okBatch_bat (h cs hc)
theorem applyR_bat {t cs : List Rw} (h : goodC cs = true) : applyR t (batOf cs) = if 40 < (sets t cs).length then none else some (sets t cs) := by
  unfold applyR; rw [if_pos (goodBs_bat h), map_bat h]
section
variable {css : List (List Rw)} {s : List Rw × List UInt8}
theorem Kept.fit (h : Kept css s) : Fit s.1 := recGo_fit fit_nil h.table
theorem Kept.scan (h : Kept css s) : scan s.2 = (css.map batOf, s.2.length) := by
  have := scan_whole _ (okBatch_all h.ok)
  rw [h.file]; exact this
theorem Kept.recover (h : Kept css s) : recoverR s.2 = (s.1, s.2.length, 0) := by
  unfold recoverR
  have := h.size
  rw [if_neg (by omega), h.scan]
  simp only [h.table]
theorem scan_torn1 {b : List (List UInt8)} (hb : okBatch b) {n : Nat} (hn : n < (pack b).length) : Go.Proofs.Ytmlgaedhfannmaa.scan ((pack b).take n) = ([], 0) := by
  unfold Go.Proofs.Ytmlgaedhfannmaa.scan pack
  exact scn_torn b hb.2 _ 0 (by omega) _ (by unfold pack at hn; omega) _ _ _ _
theorem Kept.torn (h : Kept css s) {cs : List Rw} (hc : okCs cs) {n : Nat} (hn : n < (pkF cs).length) (hs : s.2.length + (pkF cs).length ≤ 1200) : recoverR (s.2 ++ (pkF cs).take n) = (s.1, s.2.length, 0) := by
  rw [pkF_ok hc] at *
  have hl : (s.2 ++ (pack (batOf cs)).take n).length ≤ 1200 := by rw [List.length_append, List.length_take]; omega
  unfold recoverR
  rw [if_neg (by omega)]
  have h1 : Go.Proofs.Ytmlgaedhfannmaa.scan (s.2 ++ (pack (batOf cs)).take n) = (css.map batOf, s.2.length) := by
    have h2 := scan_packs _ (okBatch_all h.ok) ((pack (batOf cs)).take n)
    rw [scan_torn1 (okBatch_bat hc) hn] at h2
    rw [h.file]
    unfold filOf
    simpa using h2
  rw [h1]
  simp only [h.table]
theorem Kept.commit (h : Kept css s) {cs : List Rw} (hc : okCs cs) (ht : (sets s.1 cs).length ≤ 40) (hs : s.2.length + (pkF cs).length ≤ 1200) : Kept (css ++ [cs]) (sets s.1 cs, s.2 ++ pkF cs) := by
  refine ⟨?_, ?_, ?_, ?_⟩
  · intro x hx
    rcases List.mem_append.1 hx with hx | hx
    · exact h.ok x hx
    · simp at hx; exact hx ▸ hc
  · show s.2 ++ pkF cs = _
    rw [h.file, pkF_ok hc]
    unfold filOf
    rw [List.map_append, packs_app]
    simp [packs]
  · rw [List.map_append]
    show recGo [] (css.map batOf ++ [batOf cs]) = _
    rw [recGo_snoc, h.table]
    show applyR s.1 (batOf cs) = _
    rw [applyR_bat hc.2.2, if_neg (by omega)]
  · show (s.2 ++ pkF cs).length ≤ 1200
    rw [List.length_append]; exact hs
theorem recover_whole (h : Kept css s) {cs : List Rw} (hc : okCs cs) (ht : (sets s.1 cs).length ≤ 40) (hs : s.2.length + (pkF cs).length ≤ 1200) : recoverR (s.2 ++ pkF cs) = (sets s.1 cs, (s.2 ++ pkF cs).length, 0) :=
  (h.commit hc ht hs).recover
end
/-! ### a table packed anew -/
def wt (r : Rw) : Nat := r.key.length + r.val.length + 5
def wts (l : List Rw) : Nat := (l.map wt).sum
theorem wts_app (a b : List Rw) : wts (a ++ b) = wts a + wts b := by simp [wts]
theorem wts_cons (r : Rw) (l : List Rw) : wts (r :: l) = wt r + wts l := by simp [wts]
theorem wts_setR (c : Rw) : ∀ l : List Rw, wts (setR c l) ≤ wts l + wt c
  | [] => by
    unfold setR
    split
    · simp [wts]
    · simp [wts]
  | r :: l => by
    have := wts_setR c l
    unfold setR
    split
    · rw [wts_cons, wts_cons]; omega
    · split
      · split
        · rw [wts_cons]; omega
        · rw [wts_cons, wts_cons]; omega
      · split
        · omega
        · rw [wts_cons c]; omega
theorem wts_sets : ∀ (cs l : List Rw), wts (sets l cs) ≤ wts l + wts cs
  | [], _ => by simp [sets, wts]
  | c :: cs, l => by
    have h1 := wts_sets cs (setR c l)
    have h2 := wts_setR c l
    rw [sets_cons, wts_cons]; omega
theorem pack_wts (cs : List Rw) : (pack (batOf cs)).length = wts cs := by
  rw [pack_len]
  unfold batOf wts
  rw [List.map_map]
  congr 1
  apply List.map_congr_left
  intro r _
  simp [wt, rec_len]
theorem recGo_wts : ∀ {css : List (List Rw)} {t t' : List Rw}, (∀ cs ∈ css, okCs cs) → recGo t (css.map batOf) = some t' → wts t' ≤ wts t + (filOf css).length
  | [], t, t', _, h => by injection h with h; subst h; omega
  | cs :: css, t, t', hok, h => by
    have hc := hok cs (by simp)
    change (applyR t (batOf cs)).bind _ = _ at h
    rw [applyR_bat hc.2.2] at h
    have e : (filOf (cs :: css)).length = wts cs + (filOf css).length := by
      unfold filOf packs
      rw [List.map_cons, List.map_cons, List.flatten_cons, List.length_append, pack_wts]
    split at h
    · cases h
    · have h1 := recGo_wts (fun x hx => hok x (by simp [hx])) h
      have h2 := wts_sets cs t
      omega
theorem Fit.okCs {t : List Rw} (h : Fit t) (h0 : t ≠ []) : okCs t := ⟨h0, by have := h.len; omega, List.all_eq_true.2 fun r hr => (h.good r hr).1⟩
theorem pkF_len {t : List Rw} (h : Fit t) : (pkF t).length = wts t := by
  by_cases h0 : t = []
  · subst h0; rw [pkF_nil]; rfl
  · rw [pkF_ok (h.okCs h0), pack_wts]
/-- Rows set into an empty table in their order make the table. -/
theorem setR_last {c : Rw} (hc : c.val ≠ []) : ∀ {l : List Rw}, (∀ r ∈ l, Op.bytesLess r.key c.key = true) → setR c l = l ++ [c]
  | [], _ => by unfold setR; rw [if_neg hc]; rfl
  | r :: l, h => by
    unfold setR
    rw [if_pos (h r (by simp)), setR_last hc fun q hq => h q (by simp [hq])]; rfl
theorem srt_app : ∀ {a b : List Rw}, srt (a ++ b) → ∀ r ∈ a, ∀ q ∈ b, Op.bytesLess r.key q.key = true
  | [], _, _, r, hr => by simp at hr
  | x :: a, b, h, r, hr => by
    intro q hq
    have h' : srt (x :: (a ++ b)) := h
    rcases List.mem_cons.1 hr with rfl | hr
    · exact h'.1 q (by simp [hq])
    · exact srt_app h'.2 r hr q hq
theorem sets_table : ∀ {b a : List Rw}, srt (a ++ b) → (∀ r ∈ b, r.val ≠ []) → sets a b = a ++ b
  | [], a, _, _ => by simp [sets]
  | r :: b, a, h, hv => by
    rw [sets_cons, setR_last (hv r (by simp)) fun q hq => srt_app h q hq r (by simp)]
    rw [sets_table (b := b) (a := a ++ [r]) (by simpa using h) fun q hq => hv q (by simp [hq])]
    simp
theorem sets_self {t : List Rw} (h : Fit t) : sets [] t = t := sets_table (a := []) h.srt fun r hr => (h.good r hr).2
theorem Kept.pack {css : List (List Rw)} {s : List Rw × List UInt8} (h : Kept css s) : Kept (if s.1 = [] then [] else [s.1]) (s.1, pkF s.1) := by
  have hf := h.fit
  have hw := recGo_wts h.ok h.table
  have hl := h.size
  rw [h.file] at hl
  have hs : (pkF s.1).length ≤ 1200 := by rw [pkF_len hf]; simp [wts] at hw ⊢; omega
  by_cases h0 : s.1 = []
  · rw [if_pos h0, h0, pkF_nil]
    exact ⟨by simp, rfl, rfl, by simp⟩
  · rw [if_neg h0]
    have hc := hf.okCs h0
    refine ⟨by simp [hc], ?_, ?_, hs⟩
    · show pkF s.1 = _
      rw [pkF_ok hc]; simp [filOf, packs]
    · show recGo [] [batOf s.1] = _
      rw [recGo_one, applyR_bat hc.2.2, sets_self hf, if_neg (by have := hf.len; omega)]
/-! ### every act keeps file and table together -/
theorem setN_fit {t cs : List Rw} (ht : Fit t) : setN t cs = if 60 < cs.length ∨ goodC cs = false then ([], 1) else if 40 < (sets t cs).length then ([], 10) else (sets t cs, 0) := by
  unfold setN; rw [if_neg (by simp [ht.chk])]
theorem plan_ok {t cs : List Rw} (ht : Fit t) (h : planE t cs = 0) : okCs cs ∧ (sets t cs).length ≤ 40 ∧ setN t cs = (sets t cs, 0) := by
  unfold planE at h
  split at h
  · cases h
  · rename_i h0
    rw [setN_fit ht] at h ⊢
    split at h
    · cases h
    · rename_i h1
      split at h
      · cases h
      · rename_i h2
        have hg : goodC cs = true := by cases hg : goodC cs <;> simp_all
        exact ⟨⟨h0, by omega, hg⟩, by omega, by rw [if_neg h1, if_neg h2]⟩
theorem Kp.act {s : List Rw × List UInt8} (h : Kp s) (a : Ac) : Kp (actR s a).2 := by
  obtain ⟨css, h⟩ := h
  have hc : planE s.1 a.rows = 0 → ¬ 1200 < s.2.length + (pkF a.rows).length → Kp (sets s.1 a.rows, s.2 ++ pkF a.rows) := fun h1 h2 =>
    have hp := plan_ok h.fit h1
    ⟨_, h.commit hp.1 hp.2.1 (by omega)⟩
  unfold actR
  split
  · split
    · exact ⟨css, h⟩
    · rename_i h1
      split
      · exact ⟨css, h⟩
      · rename_i h2
        exact hc (by simpa using h1) h2
  · split
    · split <;> exact ⟨css, h⟩
    · split
      · exact ⟨css, h⟩
      · split
        · exact ⟨_, h.pack⟩
        · split
          · split
            · exact ⟨css, h⟩
            · split
              · exact ⟨css, h⟩
              · rename_i h1
                split
                · exact ⟨css, h⟩
                · rename_i h2
                  split
                  · exact ⟨css, h⟩
                  · exact hc (by simpa using h1) h2
          · exact ⟨css, h⟩
theorem Kp.acts : ∀ (l : List Ac) {s : List Rw × List UInt8}, Kp s → Kp (actsR s l).2
  | [], _, h => h
  | a :: l, _, h => Kp.acts l (h.act a)
theorem Kp.fit {s : List Rw × List UInt8} (h : Kp s) : Fit s.1 := by obtain ⟨_, h⟩ := h; exact h.fit
end Go.Proofs.Ytmlgaedhfannmaa

/- The store: slices.Chunk, as an iterator whose body may do what it likes with its own cells. -/
namespace Go.Proofs.Ytmlgaedhfannmaa
set_option linter.unusedVariables false
set_option linter.unusedSimpArgs false
open Go.RowKit Go.Shelf
attribute [local go_sem] Oper.semAt_some
theorem cell_lt' {w : World} {a : Addr} {v : Value} (h : w.cell? a = some v) : a.block < w.heap.size := by
  obtain ⟨o, ho, _⟩ := cells_of_cell h
  exact (Array.getElem?_eq_some_iff.1 ho).1
/-- A part of m places: from, to. -/
abbrev Ck (m : Nat) := { p : Nat × Nat // p.1 ≤ p.2 ∧ p.2 ≤ m ∧ p.2 - p.1 ≤ 60 }
def ckAt (m k : Nat) : Ck m := ⟨(min (60 * k) m, min (60 * k + 60) m), by simp only; omega, by simp only; omega, by simp only; omega⟩
def ckL (m k : Nat) : List (Ck m) := (List.range k).map (ckAt m)
theorem ckL_succ (m k : Nat) : ckL m (k + 1) = ckL m k ++ [ckAt m k] := by simp [ckL, List.range_succ]
theorem ckL_len (m k : Nat) : (ckL m k).length = k := by simp [ckL]
/-- What yield is called with. -/
def ckV (A : Option Addr) {m : Nat} (x : Ck m) : Array Value := #[.slice (cutAt A x.1.2 x.1.1 2) (x.1.2 - x.1.1) (x.1.2 - x.1.1)]
/-- The two boxes lie as they lay. -/
def Kc (bs bn : Nat) (W W' : World) : Prop := W'.heap[bs]? = W.heap[bs]? ∧ W'.heap[bn]? = W.heap[bn]?
theorem run_cutM {P : Program} (w : World) (t e : TypeId) (i : TypeInfo) (ht : P.underlying t = some (.slice e)) (hi : P.info? e = some i) (A : Option Addr) (n c : Nat)
    (kl kh km : IntKind) (L H M : Int) (lo hg : Nat) (hL : L = lo) (hH : H = hg) (hM : M = hg) (h1 : lo ≤ hg) (h2 : hg ≤ c) :
    (Instr.slice t (.slice A n c) (some (.int kl L)) (some (.int kh H)) (some (.int km M))).run P w = .ok (.slice (cutAt A hg lo i.size) (hg - lo) (hg - lo)) w := by
  subst hL hH hM
  simp [Instr.slice, run_underlying ht, Instr.sliceBounds, run_sliceBound, sizeOf, typeInfo, hi, cutAt, h1, h2]
set_option maxRecDepth 100000 in
set_option maxHeartbeats 2000000 in
theorem chunk1_in (F : Fence) (n : Nat) (hF : F.fn 172) (hro : F.round = none) (hn : 1 ≤ n) (l bs bn : Nat) (A : Option Addr) (m c : Nat) (hm : m ≤ 1000) (hmc : m ≤ c) (J Jx : List (Ck m) → World → Prop)
    (hY : ∀ pre x W, J pre W → pre.length < m → YieldAt F (n - 1) Try.prog l (ckV A x) W fun e W' =>
      (e = .returned (.bool true) ∧ J (pre ++ [x]) W' ∧ Kc bs bn W W') ∨ (e = .returned (.bool false) ∧ Jx (pre ++ [x]) W'))
    (W : World) (hbs : W.cell? ⟨bs, 0, none⟩ = some (.slice A m c)) (hbn : W.cell? ⟨bn, 0, none⟩ = some (.int .i64 60)) (hJd : ∀ pre W, J pre W → J pre W.drew) (h0 : J [] W) :
    CallsIn F n Try.prog 172 #[.func (.yield l) #[] #[], .pointer (some ⟨bs, 0, none⟩), .pointer (some ⟨bn, 0, none⟩)] W fun e W' => (∃ v, e = .returned v) ∧
      ((∃ ys, (∃ k, m ≤ 60 * k ∧ ys = ckL m k) ∧ J ys W') ∨ (∃ pre, (∃ k, pre = ckL m k) ∧ Jx pre W')) := by
  refine callsIn_of_wp Try.func172 rfl hF ?_ hro
  simp only [Try.ntmps172, List.size_toArray, List.length_cons, List.length_nil, Nat.reduceAdd, Nat.reduceSub, Array.replicate_succ, Array.replicate_zero, List.push_toArray, List.append_toArray, List.nil_append, List.cons_append]
  gi_wp2
  obtain ⟨i0, hi0, hz0, hzs, hzb⟩ := info_parts info_row
  gi_loopw [4] (fun vi wr => ∃ k i : Nat, i = 60 * k ∧ i ≤ m + 59 ∧ vi = .int .i64 (i : Int) ∧ J (ckL m k) wr ∧ wr.cell? ⟨bs, 0, none⟩ = some (.slice A m c) ∧ wr.cell? ⟨bn, 0, none⟩ = some (.int .i64 60))
    (fun i _ => m - (intOf i).toNat)
  case atStart => exact ⟨0, 0, rfl, by omega, rfl, h0, hbs, hbn⟩
  case round =>
    obtain ⟨k, i, hik, hk, rfl, hJs, cbs, cbn⟩ := hrel
    have Hik := Lib.hid hik
    clear hbs hbn h0
    by_cases hlt : i < m
    · obtain ⟨fn, tmps, assign, body, hy, hR⟩ := hY _ (ckAt m k) wr.drew (hJd _ _ hJs) (by rw [ckL_len]; omega)
      have hlt' : (i : Int) < (m : Int) := by omega
      obtain ⟨d, hd⟩ : ∃ d, m - i = d := ⟨_, rfl⟩
      obtain ⟨e, he⟩ : ∃ e, min 60 d = e := ⟨_, rfl⟩
      have hif : (if (d : Int) < 60 then (d : Int) else 60) = (e : Int) := by split <;> omega
      have he60 : e ≤ 60 := by omega
      have hcut1 := fun W' => run_cut_l (P := Try.prog) W' 52 51 i0 Try.underlying52 hi0 A m c .i64 (i : Int) i rfl (by omega)
      have hcut3 := fun W' => run_cutM (P := Try.prog) W' 52 51 i0 Try.underlying52 hi0 A m c .i64 .i64 .i64 (i : Int) ((i : Int) + (e : Int)) ((i : Int) + (e : Int)) i (i + e) rfl (by omega) (by omega) (by omega) (by omega)
      simp only [hzs] at hcut1 hcut3
      rw [hd] at hcut1
      have hckv : ckV A (ckAt m k) = #[.slice (cutAt A (i + e) i 2) (i + e - i) (i + e - i)] := by
        unfold ckV ckAt
        simp only
        rw [← hik, show min i m = i by omega, show min (i + 60) m = i + e by omega]
      rw [hckv] at hy
      have c1 : wr.drew.cell? ⟨bs, 0, none⟩ = some (.slice A m c) := cbs
      have hle : i + e ≤ m := by omega
      have Hd := Lib.hid hd
      have He := Lib.hid he
      generalize cutAt A (i + e) i 2 = A3 at *
      generalize i + e - i = e3 at *
      generalize cutAt A c i 2 = A1 at *
      generalize c - i = c1' at *
      have hmx : Try.prog.follows .mixedOrders = true := by kernel_rfl
      clear hckv hik hd he
      gi_wp2
      gi_region_o
      all_goals
        gi_wp2
        refine hR.mono ?_
        rintro e W3 (⟨rfl, hJ3, hk3⟩ | ⟨rfl, hJx3⟩)
        · have d0 : W3.cell? ⟨bs, 0, none⟩ = some (.slice A m c) := (World.cell?_of_block (a := ⟨bs, 0, none⟩) hk3.1).trans cbs
          have d1 : W3.cell? ⟨bn, 0, none⟩ = some (.int .i64 60) := (World.cell?_of_block (a := ⟨bn, 0, none⟩) hk3.2).trans cbn
          clear cbs cbn c1
          gi_wp2
          go_roundw
          case rel => exact ⟨k + 1, i + 60, by have := Hik.out; omega, by omega, by go_num, by rw [ckL_succ]; exact hJ3, d0, d1⟩
          case measure => simp [intOf]; omega
        · gi_wp2
          refine bodyPost_ret (results_none rfl _ _ _) rfl ?_
          exact ⟨⟨_, rfl⟩, .inr ⟨_, ⟨k + 1, (ckL_succ _ _).symm⟩, hJx3⟩⟩
    · have hlt' : ¬ (i : Int) < (m : Int) := by omega
      gi_wp2
      go_end0
      exact ⟨⟨_, rfl⟩, .inl ⟨_, ⟨k, by have := Hik.out; omega, rfl⟩, hJs⟩⟩
set_option maxHeartbeats 1000000 in
theorem chunk_any (A : Option Addr) (m c : Nat) (w : World) :
    Calls Try.prog 146 #[.slice A m c, .int .i64 60] w fun e w' => e = .returned (.func (.func 172) #[] #[.pointer (some ⟨w.heap.size, 0, none⟩), .pointer (some ⟨w.heap.size + 1, 0, none⟩)]) ∧
      w' = (w.alloc (.cells #[.slice A m c] 52)).alloc (.cells #[.int .i64 60] 3) := by
  go_enter Try.func146, Try.ntmps146
  go_wp2
  go_ret
  exact ⟨rfl, rfl⟩
theorem chunk_stops (F : Fence) (n : Nat) (hF : F.fn 172) (hro : F.round = none) (hn : 1 ≤ n) (bs bn : Nat) (A : Option Addr) (m c : Nat) (hm : m ≤ 1000) (hmc : m ≤ c) (w : World)
    (hbs : w.cell? ⟨bs, 0, none⟩ = some (.slice A m c)) (hbn : w.cell? ⟨bn, 0, none⟩ = some (.int .i64 60)) :
    SeqStopsK F n Try.prog 172 #[.pointer (some ⟨bs, 0, none⟩), .pointer (some ⟨bn, 0, none⟩)] (fun x : Ck m => ckV A x) (Kc bs bn) (fun ys => ∃ k, m ≤ 60 * k ∧ ys = ckL m k) (fun pre => ∃ k, pre = ckL m k) m w :=
  fun l J Jx W hW hJ _ hY h0 =>
    chunk1_in F n hF hro hn l bs bn A m c hm hmc J Jx hY W ((hW.cell (p := ⟨bs, 0, none⟩) (cell_lt' hbs)).trans hbs) ((hW.cell (p := ⟨bn, 0, none⟩) (cell_lt' hbn)).trans hbn)
      (fun pre W1 h => hJ pre W1 W1.drew none h ⟨rfl, rfl, rfl, Nat.le_refl _, fun _ _ _ => rfl⟩ (fun r e => by cases e)) h0
end Go.Proofs.Ytmlgaedhfannmaa

/- The store: a table set part by part, in mathematics and in memory. -/
namespace Go.Proofs.Ytmlgaedhfannmaa
set_option linter.unusedVariables false
set_option linter.unusedSimpArgs false
open Go.RowKit Go.Shelf
def ckF (S : List Rw) {m : Nat} (o : Option (List Rw)) (x : Ck m) : Option (List Rw) :=
  o.bind fun t => if (setN t ((S.take x.1.2).drop x.1.1)).2 = 0 then some (setN t ((S.take x.1.2).drop x.1.1)).1 else none
def ckFold (S : List Rw) {m : Nat} (t : List Rw) (l : List (Ck m)) : Option (List Rw) := l.foldl (ckF S) (some t)
theorem ckFold_snoc (S : List Rw) {m : Nat} (t : List Rw) (l : List (Ck m)) (x : Ck m) : ckFold S t (l ++ [x]) = ckF S (ckFold S t l) x := by unfold ckFold; rw [List.foldl_append]; rfl
theorem ck_cut (S : List Rw) {a b : Nat} (h : a ≤ b) : S.take a ++ (S.take b).drop a = S.take b := by
  have := List.take_append_drop a (S.take b)
  rwa [List.take_take, Nat.min_eq_left h] at this
theorem ck_parts (S : List Rw) {m : Nat} (hm : S.length = m) (k : Nat) : S.take (60 * k) ++ (S.take (ckAt m k).1.2).drop (ckAt m k).1.1 = S.take (60 * (k + 1)) := by
  have e1 : S.take (ckAt m k).1.1 = S.take (60 * k) := by
    show S.take (min (60 * k) m) = _
    rw [← hm, ← List.take_take, List.take_length]
  have e2 : S.take (ckAt m k).1.2 = S.take (60 * (k + 1)) := by
    show S.take (min (60 * k + 60) m) = _
    rw [← hm, ← List.take_take, List.take_length, Nat.mul_succ]
  rw [← e1, ck_cut S (ckAt m k).2.1, e2]
theorem ck_good {S : List Rw} (hg : goodC S = true) (a b : Nat) : goodC ((S.take b).drop a) = true :=
  List.all_eq_true.2 fun q hq => List.all_eq_true.1 hg q (List.mem_of_mem_take (List.mem_of_mem_drop hq))
theorem ck_len {m : Nat} (S : List Rw) (x : Ck m) : ((S.take x.1.2).drop x.1.1).length ≤ 60 := by
  rw [List.length_drop, List.length_take]; have := x.2.2.2; omega
theorem setN_ok {t cs : List Rw} (ht : Fit t) (hg : goodC cs = true) (hl : cs.length ≤ 60) : setN t cs = if 40 < (sets t cs).length then ([], 10) else (sets t cs, 0) := by
  rw [setN_fit ht, if_neg (by rw [hg]; simp; omega)]
theorem ckF_one {S : List Rw} {m : Nat} (x : Ck m) {t : List Rw} (ht : Fit t) (hg : goodC S = true) :
    ckF S (some t) x = if 40 < (sets t ((S.take x.1.2).drop x.1.1)).length then none else some (sets t ((S.take x.1.2).drop x.1.1)) := by
  show (if _ then _ else _) = _
  rw [setN_ok ht (ck_good hg _ _) (ck_len S x)]
  by_cases h : 40 < (sets t ((S.take x.1.2).drop x.1.1)).length
  · rw [if_pos h, if_pos h, if_neg (by decide)]
  · rw [if_neg h, if_neg h, if_pos rfl]
theorem ckFold_some {S : List Rw} {m : Nat} (hm : S.length = m) (hg : goodC S = true) {t : List Rw} (ht : Fit t) : ∀ (k : Nat) (t' : List Rw), ckFold S t (ckL m k) = some t' → t' = sets t (S.take (60 * k)) ∧ Fit t'
  | 0, t', h => by
    have : some t = some t' := h
    injection this with this
    subst this
    exact ⟨by simp [sets], ht⟩
  | k + 1, t', h => by
    rw [ckL_succ, ckFold_snoc] at h
    cases h1 : ckFold S t (ckL m k) with
    | none => rw [h1] at h; cases h
    | some t1 =>
      rw [h1] at h
      obtain ⟨e, hf⟩ := ckFold_some hm hg ht k t1 h1
      rw [ckF_one _ hf hg] at h
      split at h
      · cases h
      · rename_i h3
        injection h with h
        have e2 : sets t1 ((S.take (ckAt m k).1.2).drop (ckAt m k).1.1) = sets t (S.take (60 * (k + 1))) := by rw [e, ← sets_app, ck_parts S hm k]
        rw [← h]
        exact ⟨e2, fit_sets hf (ck_good hg _ _) (by omega)⟩
theorem ckFold_all {S : List Rw} {m : Nat} (hm : S.length = m) (hg : goodC S = true) {t : List Rw} (ht : Fit t) (ha : ∀ j, (sets t (S.take j)).length ≤ 40) : ∀ k, ckFold S t (ckL m k) = some (sets t (S.take (60 * k)))
  | 0 => by show some t = _; simp [sets]
  | k + 1 => by
    rw [ckL_succ, ckFold_snoc, ckFold_all hm hg ht ha k]
    have hf : Fit (sets t (S.take (60 * k))) := fit_sets ht (List.all_eq_true.2 fun q hq => List.all_eq_true.1 hg q (List.mem_of_mem_take hq)) (ha _)
    have e2 : sets (sets t (S.take (60 * k))) ((S.take (ckAt m k).1.2).drop (ckAt m k).1.1) = sets t (S.take (60 * (k + 1))) := by rw [← sets_app, ck_parts S hm k]
    rw [ckF_one _ hf hg, e2, if_neg (by have := ha (60 * (k + 1)); omega)]
/-- What the parts come to, all of them, or up to one that is refused. -/
theorem apply_done {t : List Rw} {bs : List (List UInt8)} (ht : Fit t) (hg : goodBs bs = true) {m k : Nat} (hm : (settledR (bs.map chgF)).length = m) (hk : m ≤ 60 * k) {t' : List Rw} (h : ckFold (settledR (bs.map chgF)) t (ckL m k) = some t') : applyR t bs = some t' := by
  have hgc := goodC_map hg
  obtain ⟨e, hf⟩ := ckFold_some hm (settled_good hgc) ht k t' h
  rw [List.take_of_length_le (by omega), sets_settled ht.srt (fun r hr => (ht.good r hr).2)] at e
  unfold applyR
  rw [if_pos hg, ← e, if_neg (by have := hf.len; omega)]
theorem apply_stop {t : List Rw} {bs : List (List UInt8)} (ht : Fit t) (hg : goodBs bs = true) {m k : Nat} (hm : (settledR (bs.map chgF)).length = m) (h : ckFold (settledR (bs.map chgF)) t (ckL m k) = none) : applyR t bs = none := by
  have hgc := goodC_map hg
  unfold applyR
  rw [if_pos hg]
  by_cases h40 : 40 < (sets t (bs.map chgF)).length
  · rw [if_pos h40]
  · have := ckFold_all hm (settled_good hgc) ht (fun j => settled_mid ht.len (by rw [sets_settled ht.srt (fun r hr => (ht.good r hr).2)]; omega) j) k
    rw [h] at this; cases this
/-! ### in memory -/
/-- A list of rows in blocks of S. -/
def RInS (w : World) (S : Nat → Prop) (A : Option Addr) (n c : Nat) (l : List Rw) : Prop := l.length = n ∧ n ≤ c ∧ (A = none → c = 0) ∧ HoldsS w S 2 A n (pcR l)
theorem RInS.low {w : World} {B n c : Nat} {A : Option Addr} {l : List Rw} (h : RIn w B A n c l) : RInS w (fun b => b < B) A n c l := h
theorem RInS.all {w : World} {S : Nat → Prop} {n c : Nat} {A : Option Addr} {l : List Rw} (h : RInS w S A n c l) : RIn w w.heap.size A n c l := by
  obtain ⟨h1, h2, h3, h4, h5⟩ := h
  refine ⟨h1, h2, h3, h4, fun hn => ?_⟩
  obtain ⟨b, off, e, hb, hc⟩ := h5 hn
  refine ⟨b, off, e, ?_, hc⟩
  have hl : 0 < (pcR l).length := by rw [h4]; omega
  have := cell_lt' (hc 0 _ (List.getElem?_eq_getElem hl))
  exact this
theorem RInS.mono {w : World} {S S' : Nat → Prop} {n c : Nat} {A : Option Addr} {l : List Rw} (h : RInS w S A n c l) (hs : ∀ b, b < w.heap.size → S b → S' b) : RInS w S' A n c l := by
  obtain ⟨h1, h2, h3, h4, h5⟩ := h
  refine ⟨h1, h2, h3, h4, fun hn => ?_⟩
  obtain ⟨b, off, e, hb, hc⟩ := h5 hn
  refine ⟨b, off, e, ?_, hc⟩
  have hl : 0 < (pcR l).length := by rw [h4]; omega
  exact hs b (cell_lt' (hc 0 _ (List.getElem?_eq_getElem hl))) hb
theorem RInS.kept {w w' : World} {S : Nat → Prop} {n c : Nat} {A : Option Addr} {l : List Rw} (h : RInS w S A n c l) (hk : ∀ p : Addr, S p.block → p.block < w.heap.size → w'.cell? p = w.cell? p) : RInS w' S A n c l := by
  obtain ⟨h1, h2, h3, h4, h5⟩ := h
  refine ⟨h1, h2, h3, h4, fun hn => ?_⟩
  obtain ⟨b, off, e, hb, hc⟩ := h5 hn
  exact ⟨b, off, e, hb, fun j u hu => (hk _ hb (cell_lt' (hc j u hu))).trans (hc j u hu)⟩
theorem RInS.below {w w' : World} {S : Nat → Prop} {n c : Nat} {A : Option Addr} {l : List Rw} (h : RInS w S A n c l) (hb : Below w.heap.size w w') : RInS w' S A n c l := h.kept fun p _ hp => hb.cell hp
theorem RInS.own {w w' : World} {S : Nat → Prop} {n c : Nat} {A : Option Addr} {l : List Rw} {row : Option Nat} (h : RInS w S A n c l) (hg : w.grownBy w' row) (hr : ∀ r, row = some r → ∃ o : Obj, w.heap[r]? = some o ∧ o.isCells = false) : RInS w' S A n c l := by
  obtain ⟨h1, h2, h3, h4, h5⟩ := h
  refine ⟨h1, h2, h3, h4, fun hn => ?_⟩
  obtain ⟨b, off, e, hb, hc⟩ := h5 hn
  exact ⟨b, off, e, hb, fun j u hu => cell_kept (hc j u hu) hg hr⟩
theorem RInS.row {w : World} {base e n : Nat} {v : Value} {l : List Rw} (h : w.ownsRow base e 2 v n (pcR l)) : ∃ A c, v = .slice A n c ∧ RInS w (fun b => base ≤ b) A n c l := by
  obtain ⟨A, c, rfl, hA⟩ := own_form h
  have hl : l.length = n := by have := h.1; rw [pcR_len] at this; omega
  refine ⟨A, c, rfl, hl, ?_, fun hA' => (hA hA').2, h.1, fun hn => ?_⟩
  · rcases h.2 with ⟨hv, h0⟩ | ⟨g, c', cur, hv, hb, hg, hnc, hrest⟩
    · injection hv; omega
    · injection hv; omega
  · obtain ⟨b, off, rfl, hb, hc⟩ := (Holds.own h).2 hn
    exact ⟨b, off, rfl, (h.lt b rfl).1, hc⟩
theorem kc_t {bs bn : Nat} {A B C : World} (h : Kc bs bn A B) (k : Kc bs bn B C) : Kc bs bn A C := ⟨k.1.trans h.1, k.2.trans h.2⟩
theorem kc_b {bs bn : Nat} {w : World} (h1 : bs < w.heap.size) (h2 : bn < w.heap.size) (W : World) (l : Nat) (o o' : Obj) (hl : w.heap.size ≤ l) (_ : W.heap[l]? = some o) (_ : o.isCells = false) (_ : o.isWalk = false) : Kc bs bn W (W.putObj l o') :=
  ⟨World.putObj_heap_other (by omega), World.putObj_heap_other (by omega)⟩
theorem kc_below {bs bn : Nat} {W W' : World} (h1 : bs < W.heap.size) (h2 : bn < W.heap.size) (hb : Below W.heap.size W W') : Kc bs bn W W' := ⟨hb.block _ h1, hb.block _ h2⟩
theorem kc_set {bs bn g i : Nat} (W : World) (v : Value) (h1 : bs ≠ g) (h2 : bn ≠ g) : Kc bs bn W (W.setCell ⟨g, i, none⟩ v) := ⟨Below.heap_setCell _ _ _ _ h1, Below.heap_setCell _ _ _ _ h2⟩
theorem keeps_below {B : Nat} {W W' : World} (hb : Below W.heap.size W W') : KeepsFrom B W W' := ⟨hb.size, fun k o _ hk _ => (hb.block k (Array.getElem?_eq_some_iff.1 hk).1).trans hk⟩
theorem keeps_set {B g i : Nat} (W : World) (v : Value) : KeepsFrom B W (W.setCell ⟨g, i, none⟩ v) := (KeepsOthers.setCell _ _ _).from _
theorem boxed_below {W W' : World} {B : Nat} {t : TypeId} {v : Value} (h : Boxed W B t v) (hb : Below W.heap.size W W') : Boxed W' B t v := (hb.block _ h.lt).trans h
theorem boxed_own1 {W W' : World} {row : Option Nat} {B : Nat} {t : TypeId} {v : Value} (h : Boxed W B t v) (hg : W.grownBy W' row) (hrow : ∀ r, row = some r → ∃ o : Obj, W.heap[r]? = some o ∧ o.isCells = false) : Boxed W' B t v :=
  h.kept hg fun e' => by obtain ⟨o, ho, hc⟩ := hrow B e'.symm; rw [show W.heap[B]? = _ from h] at ho; cases ho; cases hc
theorem RIn.cutM {w : World} {B n c : Nat} {A : Option Addr} {l : List Rw} (h : RIn w B A n c l) {lo hg : Nat} (h1 : lo ≤ hg) (h2 : hg ≤ n) : RIn w B (cutAt A hg lo 2) (hg - lo) (hg - lo) ((l.take hg).drop lo) := by
  have hcut := RIn.cut h h1 h2
  refine ⟨hcut.1, Nat.le_refl _, fun hA => ?_, hcut.2.2.2.1, fun hn => ?_⟩
  · have := h.2.2.1 (cutAt_none hA)
    have := h.2.1
    omega
  · obtain ⟨b, off, e, hb, hc⟩ := hcut.2.2.2.2 hn
    refine ⟨b, off, ?_, hb, hc⟩
    have h2' := h.2.1
    unfold cutAt at e ⊢
    rw [if_neg (by omega)] at e ⊢
    exact e
theorem RInS.set_ {w : World} {S : Nat → Prop} {n c g i : Nat} {A : Option Addr} {l : List Rw} (h : RInS w S A n c l) (hg : ¬ S g) (v : Value) : RInS (w.setCell ⟨g, i, none⟩ v) S A n c l :=
  h.kept fun p hp _ => World.cell?_of_block (Below.heap_setCell _ _ _ _ (fun e => hg (by rw [← show p.block = g from e]; exact hp)))
end Go.Proofs.Ytmlgaedhfannmaa
