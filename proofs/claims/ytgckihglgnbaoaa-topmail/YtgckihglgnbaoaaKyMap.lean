/- A map in memory, as a list of pairs in the order in which they were put in. Nothing of the program is named here. -/
import Derived.Test.YtgckihglgnbaoaaKyM
import Derived.Test.YtgckihglgnbaoaaBsd
import Derived.Maps.OwnOps
import Derived.Maps.RangeRun
import Derived.Maps.RangeWalk
import Derived.DeepKeys4
namespace Go.Proofs.Ytgckihglgnbaoaa
set_option linter.unusedVariables false
set_option linter.unusedSimpArgs false
open Go.RowKit
open Go.Maps (Keyed)
open Go.ChangeMaps (setBlock heap_setBlock_same heap_setBlock_other)

/-- Keys of type k: ek x stands for x. -/
structure KeyEnc (P : Program) (k : TypeId) {K : Type} (ek : K → Value) (ok : K → Prop) : Prop where
  law : Keyed P k
  of : ∀ x, ok x → ∃ l, keyOf P k (ek x) = some l
  inj : ∀ x y, ek x = ek y → x = y

/-- The births of a map's entries. -/
def Born (es : Array MapEntry) (clock : Nat) : Prop := (∀ x ∈ es.toList, x.born < clock) ∧ (es.toList.map (·.born)).Nodup
theorem Born.push {es : Array MapEntry} {clock : Nat} (h : Born es clock) (k v : Value) : Born (es.push ⟨k, v, clock⟩) (clock + 1) := by
  refine ⟨fun x hx => ?_, ?_⟩
  · rw [Array.toList_push, List.mem_append] at hx
    rcases hx with hx | hx
    · have := h.1 x hx; omega
    · simp at hx; subst hx; simp
  · rw [Array.toList_push, List.map_append, List.nodup_append]
    refine ⟨h.2, by simp, fun a ha b hb e => ?_⟩
    obtain ⟨x, hx, rfl⟩ := List.mem_map.1 ha
    simp at hb
    have := h.1 x hx
    omega
theorem Born.modify {es : Array MapEntry} {clock : Nat} (h : Born es clock) (j : Nat) (k v : Value) : Born (es.modify j fun e => { e with key := k, val := v }) clock := by
  have e1 : ((es.modify j fun e => { e with key := k, val := v }).toList.map (·.born)) = es.toList.map (·.born) := by
    rw [Array.toList_modify]
    apply List.ext_getElem?
    intro i
    simp only [List.getElem?_map, List.getElem?_modify]
    by_cases hi : j = i
    · subst hi
      cases es.toList[j]? <;> simp
    · simp [hi]
  refine ⟨fun x hx => ?_, by rw [e1]; exact h.2⟩
  have : x.born ∈ ((es.modify j fun e => { e with key := k, val := v }).toList.map (·.born)) := List.mem_map.2 ⟨x, hx, rfl⟩
  rw [e1] at this
  obtain ⟨y, hy, e⟩ := List.mem_map.1 this
  have := h.1 y hy
  omega

section
variable {K V : Type}
/-- Block b is a map that holds L. -/
def MapIs (w : World) (b : Nat) (ek : K → Value) (ev : V → Value) (ok : K → Prop) (L : List (K × V)) : Prop :=
  ∃ es clock, w.heap[b]? = some (.map es clock) ∧ es.toList.map (fun e => (e.key, e.val)) = L.map (fun p => (ek p.1, ev p.2)) ∧ (∀ p ∈ L, ok p.1) ∧ Once L ∧ Born es clock
variable {w w' : World} {b : Nat} {ek : K → Value} {ev : V → Value} {ok : K → Prop} {L : List (K × V)}
theorem MapIs.lt (h : MapIs w b ek ev ok L) : b < w.heap.size := by
  obtain ⟨es, clock, hb, -⟩ := h
  exact (Array.getElem?_eq_some_iff.1 hb).1
theorem MapIs.kept (h : MapIs w b ek ev ok L) (e : w'.heap[b]? = w.heap[b]?) : MapIs w' b ek ev ok L := by
  obtain ⟨es, clock, hb, r⟩ := h
  exact ⟨es, clock, e.trans hb, r⟩
theorem MapIs.beside {N : Nat → Prop} (h : MapIs w b ek ev ok L) (hg : Beside N w w') (hn : ¬ N b) : MapIs w' b ek ev ok L := h.kept (hg.block b h.lt hn)
theorem MapIs.below {B : Nat} (h : MapIs w b ek ev ok L) (hg : Below B w w') (hn : b < B) : MapIs w' b ek ev ok L := h.kept (hg.block b hn)
theorem MapIs.made (w : World) (ek : K → Value) (ev : V → Value) (ok : K → Prop) : MapIs (w.alloc (.map #[] 0)) w.heap.size ek ev ok [] :=
  ⟨#[], 0, heap_alloc_new _ _, rfl, by simp, List.nodup_nil, by simp, by simp⟩
theorem MapIs.once (h : MapIs w b ek ev ok L) : Once L := by
  obtain ⟨es, clock, -, -, -, h, -⟩ := h
  exact h
theorem MapIs.oks (h : MapIs w b ek ev ok L) : ∀ p ∈ L, ok p.1 := by
  obtain ⟨es, clock, -, -, h, -⟩ := h
  exact h
/-- What a look-up comes to. -/
def lookV (ev : V → Value) (z : Value) (c : Bool) : Option V → Value
  | some v => if c then .tuple #[ev v, .bool true] else ev v
  | none => if c then .tuple #[z, .bool false] else z
theorem align_at {es : Array MapEntry} (h : es.toList.map (fun e => (e.key, e.val)) = L.map (fun p => (ek p.1, ev p.2))) {j : Nat} {e : MapEntry} (hj : es.toList[j]? = some e) : ∃ p, L[j]? = some p ∧ ek p.1 = e.key ∧ ev p.2 = e.val := by
  have h1 : (es.toList.map (fun e => (e.key, e.val)))[j]? = some (e.key, e.val) := by rw [List.getElem?_map, hj]; rfl
  rw [h, List.getElem?_map] at h1
  cases hp : L[j]? with
  | none => rw [hp] at h1; cases h1
  | some p =>
    rw [hp] at h1
    simp only [Option.map_some, Option.some.injEq, Prod.mk.injEq] at h1
    exact ⟨p, rfl, h1.1, h1.2⟩
theorem putA_set [DecidableEq K] {j : Nat} {x : K} {u v : V} (h : L[j]? = some (x, u)) (ho : Once L) : putA L x v = L.set j (x, v) := by
  induction L generalizing j with
  | nil => cases h
  | cons p L ih =>
    unfold Once at ho ih
    rw [List.map_cons, List.nodup_cons] at ho
    unfold putA
    cases j with
    | zero =>
      simp at h
      subst h
      simp
    | succ j =>
      simp at h
      rw [if_neg fun e => ho.1 (by rw [e]; exact List.mem_map.2 ⟨_, List.mem_of_getElem? h, rfl⟩), ih h ho.2]
      rfl
variable {P : Program} {k : TypeId}
theorem entry_keys (E : KeyEnc P k ek ok) (hok : ∀ p ∈ L, ok p.1) {es : Array MapEntry} (h : es.toList.map (fun e => (e.key, e.val)) = L.map (fun p => (ek p.1, ev p.2))) : ∀ e ∈ es.toList, ∃ l, keyOf P k e.key = some l := by
  intro e he
  obtain ⟨j, hj⟩ := List.mem_iff_getElem?.1 he
  obtain ⟨p, hp, e1, -⟩ := align_at h hj
  rw [← e1]
  exact E.of _ (hok p (List.mem_of_getElem? hp))
/-- Where a key stands. -/
theorem MapIs.find [DecidableEq K] (E : KeyEnc P k ek ok) {es : Array MapEntry} (hes : es.toList.map (fun e => (e.key, e.val)) = L.map (fun p => (ek p.1, ev p.2))) (hok : ∀ p ∈ L, ok p.1) (ho : Once L) {x : K} (hx : ok x) (w : World) :
    ((Instr.findKey k (ek x) es.toList).run P w = .ok none w ∧ getA L x = none) ∨ ∃ j v, (Instr.findKey k (ek x) es.toList).run P w = .ok (some (j, ev v)) w ∧ (∃ e, es.toList[j]? = some e ∧ e.key = ek x) ∧ L[j]? = some (x, v) ∧ getA L x = some v := by
  obtain ⟨l, hl⟩ := E.of x hx
  rcases E.law.find w hl es.toList (entry_keys E hok hes) with ⟨h1, h2⟩ | ⟨j, e, h1, h2, h3⟩
  · refine Or.inl ⟨h1, getA_none.2 fun hm => ?_⟩
    obtain ⟨p, hp, e1⟩ := List.mem_map.1 hm
    obtain ⟨j, hj⟩ := List.mem_iff_getElem?.1 hp
    have h4 : (L.map (fun p => (ek p.1, ev p.2)))[j]? = some (ek p.1, ev p.2) := by rw [List.getElem?_map, hj]; rfl
    rw [← hes, List.getElem?_map] at h4
    cases he : es.toList[j]? with
    | none => rw [he] at h4; cases h4
    | some e =>
      rw [he] at h4
      simp only [Option.map_some, Option.some.injEq, Prod.mk.injEq] at h4
      exact h2 e (List.mem_of_getElem? he) (by rw [h4.1, e1])
  · obtain ⟨p, hp, e1, e2⟩ := align_at hes h2
    have hpx : p.1 = x := E.inj _ _ (e1.trans h3)
    obtain ⟨px, pv⟩ := p
    simp only at hpx e1 e2
    subst hpx
    exact Or.inr ⟨j, pv, by rw [h1, e2], ⟨e, h2, h3⟩, hp, getA_of_mem ho (List.mem_of_getElem? hp)⟩
theorem MapIs.look [DecidableEq K] {t e : TypeId} {z : Value} (h : MapIs w b ek ev ok L) (E : KeyEnc P k ek ok) (ht : P.underlying t = some (.map k e)) (hz : (zeroValue e).run P w = .ok z w) {x : K} (hx : ok x) (c : Bool) :
    (Instr.lookup t (.map (some b)) (ek x) c).run P w = .ok (lookV ev z c (getA L x)) w := by
  obtain ⟨es, clock, hb, hes, hok, ho, -⟩ := h
  obtain ⟨l, hl⟩ := E.of x hx
  rcases MapIs.find E hes hok ho hx w with ⟨h1, h2⟩ | ⟨j, v, h1, -, -, h2⟩
  · rw [h2]
    cases c <;> simp [Instr.lookup, run_underlying ht, MapKept.run_getObj_map hb, E.law.check w _ hl, h1, hz, Result.andThen, lookV]
  · rw [h2]
    cases c <;> simp [Instr.lookup, run_underlying ht, MapKept.run_getObj_map hb, E.law.check w _ hl, h1, Result.andThen, lookV]
theorem beside_setBlock {es es' : Array MapEntry} {clock clock' : Nat} (hb : w.heap[b]? = some (.map es clock)) : Beside (fun i => i = b) w (setBlock w b (.map es' clock')) :=
  ⟨rfl, rfl, rfl, by simp [setBlock], fun i _ hn => heap_setBlock_other hb _ hn⟩
theorem MapIs.store [DecidableEq K] {t e : TypeId} (h : MapIs w b ek ev ok L) (E : KeyEnc P k ek ok) (ht : P.underlying t = some (.map k e)) {x : K} (hx : ok x) (v : V) :
    ∃ w', (Instr.mapUpdate t (.map (some b)) (ek x) (ev v)).run P w = .ok () w' ∧ MapIs w' b ek ev ok (putA L x v) ∧ Beside (fun i => i = b) w w' ∧ w'.heap.size = w.heap.size := by
  obtain ⟨es, clock, hb, hes, hok, ho, hbn⟩ := h
  obtain ⟨l, hl⟩ := E.of x hx
  have hok' : ∀ p ∈ putA L x v, ok p.1 := fun p hp => by
    have : p.1 ∈ (putA L x v).map (·.1) := List.mem_map.2 ⟨p, hp, rfl⟩
    rw [put_keys] at this
    have hm : p.1 ∈ L.map (·.1) ∨ p.1 = x := by
      split at this
      · simpa using this
      · exact Or.inl this
    rcases hm with hm | hm
    · obtain ⟨q, hq, e1⟩ := List.mem_map.1 hm
      rw [← e1]; exact hok q hq
    · rw [hm]; exact hx
  rcases MapIs.find E hes hok ho hx w with ⟨h1, h2⟩ | ⟨j, u, h1, ⟨e0, he0, hk0⟩, hj, h2⟩
  · refine ⟨setBlock w b (.map (es.push ⟨ek x, ev v, clock⟩) (clock + 1)), ?_, ⟨_, _, heap_setBlock_same hb _, ?_, hok', ho.put _ _, hbn.push _ _⟩, beside_setBlock hb, by simp [setBlock]⟩
    · simp [Instr.mapUpdate, run_underlying ht, MapKept.run_getObj_map hb, E.law.check w false hl, h1, MapKept.run_setObj_map _ hb, Result.andThen, setBlock]
    · rw [putA_new h2, Array.toList_push, List.map_append, List.map_append, hes]; rfl
  · have hja : es[j]? = some e0 := by simpa using he0
    refine ⟨setBlock w b (.map (es.modify j (fun e' => { e' with key := ek x, val := ev v })) clock), ?_, ⟨_, _, heap_setBlock_same hb _, ?_, hok', ho.put _ _, hbn.modify _ _ _⟩, beside_setBlock hb, by simp [setBlock]⟩
    · simp [Instr.mapUpdate, run_underlying ht, MapKept.run_getObj_map hb, E.law.check w false hl, h1, hja, hk0, E.law.stays w hl, MapKept.run_setObj_map _ hb, Result.andThen, setBlock]
    · rw [putA_set hj ho, Array.toList_modify]
      apply List.ext_getElem?
      intro i
      have hi := congrArg (fun l => l[i]?) hes
      simp only [List.getElem?_map] at hi
      simp only [List.getElem?_map, List.getElem?_modify, List.getElem?_set]
      by_cases hij : j = i
      · subst hij
        have hlt : j < L.length := (List.getElem?_eq_some_iff.1 hj).1
        simp [he0, hlt]
      · simp only [hij, if_false]
        simpa using hi

/-! ### a range over a map -/
/-- Block r goes over the map in block b; 'rest' is still to come. -/
def IterIs (w : World) (r b : Nat) (ek : K → Value) (ev : V → Value) (ok : K → Prop) (L : List (K × V)) (rest : List K) : Prop :=
  ∃ es clock since seen c0, w.heap[r]? = some (.mapIter (some b) since seen c0) ∧ w.heap[b]? = some (.map es clock) ∧ r ≠ b ∧ es.toList.map (fun e => (e.key, e.val)) = L.map (fun p => (ek p.1, ev p.2)) ∧ (∀ p ∈ L, ok p.1) ∧ Once L ∧ Born es clock ∧
    (∀ x ∈ es.toList, x.born < since) ∧ since ≤ c0 ∧ since ≤ clock ∧ ((leftOf es seen).toList.map (·.key)).Perm (rest.map ek)
variable {r : Nat} {rest : List K}
theorem IterIs.map (h : IterIs w r b ek ev ok L rest) : MapIs w b ek ev ok L := by
  obtain ⟨es, clock, since, seen, c0, _, h2, _, h3, h4, h5, h6, _⟩ := h
  exact ⟨es, clock, h2, h3, h4, h5, h6⟩
theorem IterIs.ltr (h : IterIs w r b ek ev ok L rest) : r < w.heap.size := by
  obtain ⟨es, clock, since, seen, c0, h1, _⟩ := h
  exact (Array.getElem?_eq_some_iff.1 h1).1
theorem IterIs.kept (h : IterIs w r b ek ev ok L rest) (e1 : w'.heap[r]? = w.heap[r]?) (e2 : w'.heap[b]? = w.heap[b]?) : IterIs w' r b ek ev ok L rest := by
  obtain ⟨es, clock, since, seen, c0, h1, h2, h⟩ := h
  exact ⟨es, clock, since, seen, c0, e1.trans h1, e2.trans h2, h⟩
theorem IterIs.beside {N : Nat → Prop} (h : IterIs w r b ek ev ok L rest) (hg : Beside N w w') (hr : ¬ N r) (hb : ¬ N b) : IterIs w' r b ek ev ok L rest :=
  h.kept (hg.block r h.ltr hr) (hg.block b h.map.lt hb)
theorem MapIs.range {t e : TypeId} (h : MapIs w b ek ev ok L) (ht : P.underlying t = some (.map k e)) :
    ∃ w', (Instr.range t (.map (some b))).run P w = .ok (.pointer (some ⟨w.heap.size, 0, none⟩)) w' ∧ IterIs w' w.heap.size b ek ev ok L (L.map (·.1)) ∧ Below w.heap.size w w' ∧ w'.heap.size = w.heap.size + 1 := by
  obtain ⟨es, clock, hb, hes, hok, ho, hbn⟩ := h
  have hlt : b < w.heap.size := (Array.getElem?_eq_some_iff.1 hb).1
  refine ⟨w.alloc (.mapIter (some b) clock #[] clock), ?_, ⟨es, clock, clock, #[], clock, heap_alloc_new _ _, (heap_alloc_old w _ hlt).trans hb, by omega, hes, hok, ho, hbn, hbn.1, Nat.le_refl _, Nat.le_refl _, ?_⟩, (Below.refl _ _).alloc (Nat.le_refl _) _, by simp⟩
  · exact run_range_map w t k e b es clock ht hb
  · have e1 : leftOf es #[] = es := by unfold leftOf; simp
    rw [e1, List.map_map]
    have := congrArg (List.map (·.1)) hes
    have e2 : es.toList.map (·.key) = List.map (ek ∘ fun p => p.1) L := by simpa [List.map_map, Function.comp_def] using this
    rw [e2]
theorem IterIs.next {t : TypeId} (hinj : ∀ x y, ek x = ek y → x = y) (h : IterIs w r b ek ev ok L rest) :
    (rest = [] ∧ (Instr.next (.pointer (some ⟨r, 0, none⟩)) false t).run P w = .ok (.tuple #[.bool false]) w) ∨
    ∃ x v rest' w', rest.Perm (x :: rest') ∧ (x, v) ∈ L ∧ (Instr.next (.pointer (some ⟨r, 0, none⟩)) false t).run P w = .ok (.tuple #[.bool true, ek x, ev v]) w' ∧ IterIs w' r b ek ev ok L rest' ∧
      Beside (fun i => i = r) w w' ∧ w'.heap.size = w.heap.size ∧ (Instr.entry (.pointer (some ⟨r, 0, none⟩))).run P w' = .ok (.tuple #[ek x, ev v]) w' := by
  obtain ⟨es, clock, since, seen, c0, h1, h2, h3, hes, hok, ho, hbn, h5, h6, h7, h8⟩ := h
  rcases run_next_at (P := P) w t r b since c0 seen es clock h1 h2 h5 h6 with ⟨k1, k2⟩ | ⟨e, he, w1, hw1, hrun⟩
  · left
    refine ⟨?_, k2⟩
    have := h8.length_eq
    simp [k1] at this
    exact List.length_eq_zero_iff.1 this.symm
  · right
    have hee : e ∈ es.toList := by
      unfold leftOf at he
      simp at he
      simpa using he.1
    obtain ⟨j, hj⟩ := List.mem_iff_getElem?.1 hee
    obtain ⟨p, hp, e1, e2⟩ := align_at hes hj
    have hr1 : w1.heap[r]? = some (.mapIter (some b) since seen c0) := by rcases hw1 with rfl | rfl <;> exact h1
    have hb1 : w1.heap[b]? = some (.map es clock) := by rcases hw1 with rfl | rfl <;> exact h2
    have hset : ∀ o, (setBlock w1 r o).heap[r]? = some o ∧ ∀ i, i ≠ r → (setBlock w1 r o).heap[i]? = w1.heap[i]? := fun o => by
      have hlt : r < w1.heap.size := (Array.getElem?_eq_some_iff.1 hr1).1
      refine ⟨by simp [setBlock, hlt], fun i hi => ?_⟩
      simp [setBlock, Array.getElem?_setIfInBounds]
      intro e; exact absurd e.symm hi
    have hbe : Beside (fun i => i = r) w (setBlock w1 r (.mapIter (some b) since (seen.push e.born) clock)) := by
      refine ⟨?_, ?_, ?_, ?_, fun i _ hn => ((hset _).2 i hn).trans ?_⟩ <;> rcases hw1 with rfl | rfl <;> first | rfl | (simp [setBlock]; done) | (simp [setBlock]; rfl)
    have hrl : e ∈ (leftOf es seen).toList := he
    have hl8 : ek p.1 ∈ rest.map ek := by
      rw [← h8.mem_iff, e1]
      exact List.mem_map.2 ⟨e, he, rfl⟩
    -- what is left behind it
    have hleft : (leftOf es (seen.push e.born)).toList = (leftOf es seen).toList.filter (fun y => y.born != e.born) := by
      unfold leftOf
      simp only [Array.toList_filter, List.filter_filter]
      refine List.filter_congr fun y _ => ?_
      simp only [Array.contains_push]
      cases seen.contains y.born <;> simp [bne, BEq.comm]
    have hnd : ((leftOf es seen).toList.map (·.born)).Nodup := by
      unfold leftOf
      rw [Array.toList_filter]
      exact List.Nodup.sublist (List.filter_sublist.map _) hbn.2
    have hperm : (leftOf es seen).toList.Perm (e :: (leftOf es (seen.push e.born)).toList) := by
      rw [hleft]
      generalize (leftOf es seen).toList = l at hnd hrl
      clear h8 he hleft hl8
      induction l with
      | nil => cases hrl
      | cons y l ih =>
        rw [List.map_cons, List.nodup_cons] at hnd
        rcases List.mem_cons.1 hrl with rfl | hm
        · rw [List.filter_cons_of_neg (by simp)]
          refine List.Perm.cons _ ?_
          rw [List.filter_eq_self.2]
          intro z hz
          simp only [bne_iff_ne, ne_eq]
          intro e3
          exact hnd.1 (by rw [← e3]; exact List.mem_map.2 ⟨z, hz, rfl⟩)
        · rw [List.filter_cons_of_pos (by
            simp only [bne_iff_ne, ne_eq]
            intro e3
            exact hnd.1 (by rw [e3]; exact List.mem_map.2 ⟨e, hm, rfl⟩))]
          exact ((ih hnd.2 hm).cons y).trans (List.Perm.swap _ _ _)
    have hpm := h8.symm.trans (hperm.map (·.key))
    rw [List.map_cons, ← e1] at hpm
    obtain ⟨x, hx, ex⟩ := List.mem_map.1 hl8
    have hxp : x = p.1 := hinj _ _ ex
    subst hxp
    obtain ⟨s, t', rfl⟩ := List.append_of_mem hx
    have hr' : (s ++ p.1 :: t').Perm (p.1 :: (s ++ t')) := List.perm_middle
    have hr2 : ((leftOf es (seen.push e.born)).toList.map (·.key)).Perm ((s ++ t').map ek) := by
      refine List.Perm.cons_inv (a := ek p.1) ?_
      refine hpm.symm.trans ?_
      have := hr'.map ek
      rwa [List.map_cons] at this
    refine ⟨p.1, p.2, s ++ t', _, hr', List.mem_of_getElem? hp, ?_, ⟨es, clock, since, seen.push e.born, clock, (hset _).1, ((hset _).2 b (fun e => h3 e.symm)).trans hb1, h3, hes, hok, ho, hbn, h5, h7, h7, hr2⟩, hbe, ?_, ?_⟩
    · rw [e1, e2]; exact hrun
    · rcases hw1 with rfl | rfl <;> simp [setBlock] <;> rfl
    · rw [e1, e2]
      exact run_entry_at _ r b since seen es clock e (hset _).1 (((hset _).2 b (fun e => h3 e.symm)).trans hb1) hee hbn.2
end
end Go.Proofs.Ytgckihglgnbaoaa
