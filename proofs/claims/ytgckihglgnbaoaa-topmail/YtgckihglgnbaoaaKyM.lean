/- One-time keys: the mathematics. Nothing of the program is named here. -/
import Derived.Test.YtgckihglgnbaoaaBunRA
import Derived.Test.YtgckihglgnbaoaaBunD
namespace Go.Proofs.Ytgckihglgnbaoaa
set_option linter.unusedVariables false
set_option linter.unusedSimpArgs false

/-! ### lists of pairs, as a map keeps them -/
def Once {K V : Type} (L : List (K × V)) : Prop := (L.map (·.1)).Nodup
section
variable {K V : Type} [DecidableEq K]
def getA (L : List (K × V)) (k : K) : Option V := (L.find? fun p => decide (p.1 = k)).map (·.2)
def putA : List (K × V) → K → V → List (K × V)
  | [], k, v => [(k, v)]
  | p :: L, k, v => if p.1 = k then (k, v) :: L else p :: putA L k v
theorem getA_nil (k : K) : getA ([] : List (K × V)) k = none := rfl
theorem getA_cons (p : K × V) (L : List (K × V)) (k : K) : getA (p :: L) k = if p.1 = k then some p.2 else getA L k := by
  unfold getA
  rw [List.find?_cons]
  by_cases h : p.1 = k <;> simp [h]
theorem getA_put (L : List (K × V)) (k j : K) (v : V) : getA (putA L k v) j = if k = j then some v else getA L j := by
  induction L with
  | nil => simp [putA, getA_cons, getA_nil]
  | cons p L ih =>
    unfold putA
    by_cases h : p.1 = k
    · rw [if_pos h, getA_cons, getA_cons]
      by_cases hj : k = j
      · simp [hj]
      · simp only [hj, if_false]; rw [if_neg (by rw [h]; exact hj)]
    · rw [if_neg h, getA_cons, getA_cons, ih]
      by_cases hp : p.1 = j
      · rw [if_pos hp, if_pos hp, if_neg (fun e => h (hp.trans e.symm))]
      · rw [if_neg hp, if_neg hp]
theorem putA_new {L : List (K × V)} {k : K} {v : V} (h : getA L k = none) : putA L k v = L ++ [(k, v)] := by
  induction L with
  | nil => rfl
  | cons p L ih =>
    rw [getA_cons] at h
    by_cases hp : p.1 = k
    · rw [if_pos hp] at h; cases h
    · rw [if_neg hp] at h
      unfold putA
      rw [if_neg hp, ih h, List.cons_append]
theorem getA_none {L : List (K × V)} {k : K} : getA L k = none ↔ k ∉ L.map (·.1) := by
  induction L with
  | nil => simp [getA_nil]
  | cons p L ih =>
    rw [getA_cons]
    by_cases h : p.1 = k
    · simp [h]
    · rw [if_neg h, ih]
      simp only [List.map_cons, List.mem_cons, not_or]
      exact ⟨fun hh => ⟨fun e => h e.symm, hh⟩, fun hh => hh.2⟩
theorem getA_some_mem {L : List (K × V)} {k : K} {v : V} (h : getA L k = some v) : (k, v) ∈ L := by
  induction L with
  | nil => cases h
  | cons p L ih =>
    rw [getA_cons] at h
    by_cases hp : p.1 = k
    · rw [if_pos hp] at h
      injection h with h
      subst hp h
      exact List.mem_cons_self
    · rw [if_neg hp] at h
      exact List.mem_cons_of_mem _ (ih h)
theorem put_keys (L : List (K × V)) (k : K) (v : V) : (putA L k v).map (·.1) = if getA L k = none then L.map (·.1) ++ [k] else L.map (·.1) := by
  induction L with
  | nil => simp [putA, getA_nil]
  | cons p L ih =>
    unfold putA
    rw [getA_cons]
    by_cases hp : p.1 = k
    · simp [hp]
    · rw [if_neg hp, if_neg hp, List.map_cons, ih]
      split <;> simp
theorem Once.put {L : List (K × V)} (h : Once L) (k : K) (v : V) : Once (putA L k v) := by
  unfold Once at *
  rw [put_keys]
  split
  · rename_i hn
    rw [List.nodup_append]
    refine ⟨h, by simp, fun a ha b hb e => ?_⟩
    simp at hb
    subst hb e
    exact getA_none.1 hn ha
  · exact h
theorem getA_of_mem {L : List (K × V)} (h : Once L) {k : K} {v : V} (hm : (k, v) ∈ L) : getA L k = some v := by
  induction L with
  | nil => cases hm
  | cons p L ih =>
    unfold Once at h ih
    rw [List.map_cons, List.nodup_cons] at h
    rw [getA_cons]
    rcases List.mem_cons.1 hm with e | hm
    · subst e; simp
    · rw [if_neg (fun e => h.1 (by rw [e]; exact List.mem_map.2 ⟨_, hm, rfl⟩))]
      exact ih h.2 hm
end

/-! ### names in order of their ids -/
abbrev KNm := List UInt8 × List UInt8
def insN (x : KNm) : List KNm → List KNm
  | [] => [x]
  | y :: l => if Op.bytesLess x.2 y.2 = true then x :: y :: l else y :: insN x l
def srtN (l : List KNm) : List KNm := l.foldr insN []
def UpN (l : List KNm) : Prop := l.Pairwise fun a b => Op.bytesLess a.2 b.2 = true
theorem insN_perm (x : KNm) : ∀ l, (insN x l).Perm (x :: l)
  | [] => List.Perm.refl _
  | y :: l => by
    unfold insN
    split
    · exact List.Perm.refl _
    · exact ((insN_perm x l).cons y).trans (List.Perm.swap _ _ _)
theorem srtN_perm : ∀ l, (srtN l).Perm l
  | [] => List.Perm.refl _
  | x :: l => (insN_perm x (srtN l)).trans ((srtN_perm l).cons x)
theorem insN_up {x : KNm} : ∀ {l}, UpN l → (∀ y ∈ l, y.2 ≠ x.2) → UpN (insN x l)
  | [], _, _ => by simp [insN, UpN]
  | y :: l, h, hn => by
    unfold UpN at h
    obtain ⟨h1, h2⟩ := List.pairwise_cons.1 h
    unfold insN
    split
    · rename_i hb
      refine List.pairwise_cons.2 ⟨fun z hz => ?_, h⟩
      rcases List.mem_cons.1 hz with rfl | hz
      · exact hb
      · exact bl_trans _ _ _ hb (h1 z hz)
    · rename_i hb
      have hyx : Op.bytesLess y.2 x.2 = true := by
        cases hyx : Op.bytesLess y.2 x.2 with
        | true => rfl
        | false => exact absurd (bl_total _ _ hyx (by simpa using hb)) (hn y List.mem_cons_self)
      refine List.pairwise_cons.2 ⟨fun z hz => ?_, insN_up h2 fun z hz => hn z (List.mem_cons_of_mem _ hz)⟩
      rcases List.mem_cons.1 ((insN_perm x l).mem_iff.1 hz) with rfl | hz
      · exact hyx
      · exact h1 z hz
theorem srtN_up : ∀ {l : List KNm}, (l.map (·.2)).Nodup → UpN (srtN l)
  | [], _ => List.Pairwise.nil
  | x :: l, h => by
    rw [List.map_cons, List.nodup_cons] at h
    refine insN_up (srtN_up h.2) fun y hy e => h.1 ?_
    rw [← e]
    exact List.mem_map.2 ⟨y, (srtN_perm l).mem_iff.1 hy, rfl⟩
theorem upN_uniq : ∀ {a b : List KNm}, UpN a → UpN b → a.Perm b → a = b
  | [], b, _, _, h => (List.Perm.nil_eq h)
  | x :: a, [], _, _, h => by have := h.length_eq; simp at this
  | x :: a, y :: b, ha, hb, h => by
    obtain ⟨a1, a2⟩ := List.pairwise_cons.1 ha
    obtain ⟨b1, b2⟩ := List.pairwise_cons.1 hb
    have hxy : x = y := by
      rcases List.mem_cons.1 (h.mem_iff.1 (List.mem_cons_self (a := x))) with e | hx
      · exact e
      · rcases List.mem_cons.1 (h.mem_iff.2 (List.mem_cons_self (a := y))) with e | hy
        · exact e.symm
        · have k1 := a1 y hy
          have k2 := b1 x hx
          rw [bl_asym k1] at k2; cases k2
    subst hxy
    rw [upN_uniq a2 b2 (List.Perm.cons_inv h)]

/-! ### asks -/
structure Ak where
  kind : Int
  sort : List UInt8
  id : List UInt8
  body : List UInt8
  by_ : Int
structure Kv where
  id : List UInt8
  body : List UInt8
  spare : Bool
structure Gv where
  code : Int
  id : List UInt8
  body : List UInt8
  spare : Bool
  many : Int
structure Ks where
  up : List (KNm × List UInt8)
  gv : List (KNm × Bool)
  sp : List (List UInt8 × Kv)
  cl : List ((List UInt8 × Int) × Kv)
def ks0 : Ks := ⟨[], [], [], []⟩
def kv0 : Kv := ⟨[], [], false⟩
def isGv (s : Ks) (n : KNm) : Bool := (getA s.gv n).getD false
def wantN (s : Ks) (S : List UInt8) (n : KNm) : Bool := n.1 == S && !isGv s n
def leftR (s : Ks) (S : List UInt8) : List KNm := srtN ((s.up.map (·.1)).filter (wantN s S))
def nameR (S I : List UInt8) : Int := if knd S = true ∧ idn I = true then 0 else 4
def sortR (S : List UInt8) : Int := if knd S = true then 0 else 4
/-- The key that is given, the error, and what is behind it. -/
def giveR (s : Ks) (S : List UInt8) : Kv × Int × Ks :=
  match leftR s S with
  | n :: _ => (⟨n.2, (getA s.up n).getD [], false⟩, 0, { s with gv := putA s.gv n true })
  | [] => match getA s.sp S with
    | some k => (k, 0, s)
    | none => (kv0, 8, s)
def claimR (s : Ks) (S : List UInt8) (b : Int) : Kv × Int × Ks :=
  if sortR S ≠ 0 then (kv0, sortR S, s) else if b < 1 then (kv0, 2, s) else
  match getA s.cl (S, b) with
  | some k => (k, 0, s)
  | none => if (giveR s S).2.1 ≠ 0 then (kv0, (giveR s S).2.1, s) else ((giveR s S).1, 0, { (giveR s S).2.2 with cl := putA (giveR s S).2.2.cl (S, b) (giveR s S).1 })
def leaveR (s : Ks) (S I B : List UInt8) : Int × Ks :=
  if nameR S I ≠ 0 then (nameR S I, s) else if (getA s.up (S, I)).isSome = true then (7, s) else if 12 ≤ (leftR s S).length then (10, s) else (0, { s with up := putA s.up (S, I) B })
def spareR (s : Ks) (S I B : List UInt8) : Int × Ks :=
  if nameR S I ≠ 0 then (nameR S I, s) else (0, { s with sp := putA s.sp S ⟨I, B, true⟩ })
def execR (s : Ks) (a : Ak) : Kv × Int × Ks :=
  if a.kind = 1 then (kv0, leaveR s a.sort a.id a.body)
  else if a.kind = 2 then (kv0, spareR s a.sort a.id a.body)
  else if a.kind = 3 then claimR s a.sort a.by_
  else if a.kind = 4 then (kv0, sortR a.sort, s)
  else (kv0, 3, s)
def ansR (s : Ks) (a : Ak) : Gv × Ks :=
  (if (execR s a).2.1 ≠ 0 then ⟨(execR s a).2.1, [], [], false, 0⟩ else ⟨0, (execR s a).1.id, (execR s a).1.body, (execR s a).1.spare, ((leftR (execR s a).2.2 a.sort).length : Int)⟩, (execR s a).2.2)
def asksR : Ks → List Ak → List Gv × Ks
  | s, [] => ([], s)
  | s, a :: l => ((ansR s a).1 :: (asksR (ansR s a).2 l).1, (asksR (ansR s a).2 l).2)
theorem asksR_app : ∀ (s : Ks) (l m : List Ak), asksR s (l ++ m) = ((asksR s l).1 ++ (asksR (asksR s l).2 m).1, (asksR (asksR s l).2 m).2)
  | s, [], m => by simp [asksR]
  | s, a :: l, m => by
    simp only [List.cons_append, asksR]
    rw [asksR_app]
theorem asksR_snoc (s : Ks) (l : List Ak) (a : Ak) : asksR s (l ++ [a]) = ((asksR s l).1 ++ [(ansR (asksR s l).2 a).1], (ansR (asksR s l).2 a).2) := by
  rw [asksR_app]; simp [asksR]
theorem asksR_len : ∀ (l : List Ak) (s : Ks), (asksR s l).1.length = l.length
  | [], s => rfl
  | a :: l, s => by simp [asksR, asksR_len l]

/-! ### what is always so -/
structure OkK (s : Ks) : Prop where
  up : Once s.up
  gv : Once s.gv
  sp : Once s.sp
  cl : Once s.cl
theorem okK0 : OkK ks0 := ⟨List.nodup_nil, List.nodup_nil, List.nodup_nil, List.nodup_nil⟩
theorem OkK.give {s : Ks} (h : OkK s) (S : List UInt8) : OkK (giveR s S).2.2 := by
  unfold giveR
  split
  · exact ⟨h.up, h.gv.put _ _, h.sp, h.cl⟩
  · split <;> exact h
theorem OkK.exec {s : Ks} (h : OkK s) (a : Ak) : OkK (execR s a).2.2 := by
  unfold execR
  split
  · unfold leaveR
    split
    · exact h
    · split
      · exact h
      · split
        · exact h
        · exact ⟨h.up.put _ _, h.gv, h.sp, h.cl⟩
  · split
    · unfold spareR
      split
      · exact h
      · exact ⟨h.up, h.gv, h.sp.put _ _, h.cl⟩
    · split
      · unfold claimR
        split
        · exact h
        · split
          · exact h
          · split
            · exact h
            · split
              · exact h
              · have hg := h.give a.sort
                exact ⟨hg.up, hg.gv, hg.sp, hg.cl.put _ _⟩
      · split <;> exact h
theorem OkK.asks : ∀ (l : List Ak) {s : Ks}, OkK s → OkK (asksR s l).2
  | [], _, h => h
  | a :: l, _, h => OkK.asks l (s := (ansR _ a).2) (h.exec a)
theorem left_ids {s : Ks} (h : OkK s) (S : List UInt8) : (((s.up.map (·.1)).filter (wantN s S)).map (·.2)).Nodup := by
  have h1 : ((s.up.map (·.1)).filter (wantN s S)).Nodup := List.Nodup.sublist List.filter_sublist h.up
  have h2 : ∀ n ∈ (s.up.map (·.1)).filter (wantN s S), n.1 = S := fun n hn => by
    have := (List.mem_filter.1 hn).2
    simp [wantN] at this
    exact this.1
  generalize (s.up.map (·.1)).filter (wantN s S) = L at h1 h2
  rw [List.nodup_iff_pairwise_ne] at *
  rw [List.pairwise_map]
  refine List.Pairwise.imp_of_mem ?_ h1
  intro a b ha hb hne e
  exact hne (Prod.ext ((h2 a ha).trans (h2 b hb).symm) e)
/-- Whatever order the names were met in. -/
theorem left_any {s : Ks} (h : OkK s) (S : List UInt8) {l : List KNm} (hp : l.Perm ((s.up.map (·.1)).filter (wantN s S))) (hu : l.Pairwise fun a b => Op.bytesLess b.2 a.2 = false) : l = leftR s S := by
  have hn : (l.map (·.2)).Nodup := (hp.map _).nodup_iff.2 (left_ids h S)
  refine upN_uniq ?_ (srtN_up (left_ids h S)) (hp.trans (srtN_perm _).symm)
  unfold UpN
  rw [List.nodup_iff_pairwise_ne, List.pairwise_map] at hn
  have := hu.and hn
  refine this.imp fun {a b} hab => ?_
  cases hb : Op.bytesLess a.2 b.2 with
  | true => rfl
  | false => exact absurd (bl_total _ _ hb hab.1) hab.2
theorem mem_left {s : Ks} {S : List UInt8} {n : KNm} : n ∈ leftR s S ↔ n ∈ s.up.map (·.1) ∧ n.1 = S ∧ isGv s n = false := by
  unfold leftR
  rw [(srtN_perm _).mem_iff, List.mem_filter]
  simp [wantN]
end Go.Proofs.Ytgckihglgnbaoaa
