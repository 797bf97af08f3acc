/- Joined texts: SlTurn, SlGood, SlGoodM, SlGoodN, SlStr. -/
import Derived.Test.YthkbeliplibiaaaGreatDoorBunU
import Derived.Lib.ItoaLen
import Derived.Laws.OwnMore
import Derived.Test.YthkbeliplibiaaaGreatDoorBunS
import Derived.Test.YthkbeliplibiaaaGreatDoorBunB
/- An object with a number put ahead of all keys (statement SealTurned), and lists appended to rows of the call's own. -/
namespace Go.Proofs.YthkbeliplibiaaaGreatDoor
set_option linter.unusedVariables false
set_option linter.unusedSimpArgs false
open Go.RowKit

/-! ### plain mathematics -/
def nuJ (m : Int) : JV := .mk 4 m [] [] []
def frontO (m : Int) (a : JV) : JV := .mk 7 0 [] ([65] :: a.keys) (nuJ m :: a.parts)
theorem nuJ_fault {m : Int} (h0 : 0 ≤ m) (h1 : m < 1000) {d : Nat} (hd : d < 6) : fault d (nuJ m) = 0 :=
  okAt_of (deep := 1) (by omega) (alone_num m (by omega) (by omega)) (fun d _ => by unfold faults; rfl) d (by omega)
theorem nuJ_text {m : Int} (h0 : 0 ≤ m) (h1 : m < 1000) : (jtext (nuJ m)).length ≤ 21 := by
  have := Lib.itoa_length_le m (by omega) (by omega)
  rw [nuJ, jtext]; simpa using this
theorem frontO_plain {m : Int} {a : JV} (h : Plain a) (hk : ∀ k ∈ a.keys, Op.bytesLess [65] k = true) (h0 : 0 ≤ m) (h1 : m < 1000) : Plain (frontO m a) :=
  ⟨rfl, by show ([65] :: a.keys).length = (nuJ m :: a.parts).length; simp [h.len], incr_cons.2 ⟨hk, h.incr⟩, by
    show faults 1 (nuJ m :: a.parts) = 0
    unfold faults; rw [nuJ_fault h0 h1 (by omega), if_neg (by simp)]; exact h.ok⟩
theorem frontO_strip (m : Int) (a : JV) : strip (frontO m a) = frontO m (strip a) := by
  unfold strip
  rw [show (frontO m a).keys = [65] :: a.keys from rfl, show (frontO m a).parts = nuJ m :: a.parts from rfl, wo_cons_no (by decide)]
  rfl
theorem frontO_text {m : Int} {a : JV} (h : Plain a) : (jtext (frontO m a)).length ≤ (jtext a).length + 5 + (jtext (nuJ m)).length ∧ (jtext a).length < (jtext (frontO m a)).length := by
  have h1 : jtext a = 123 :: (jobj true a.keys a.parts ++ [125]) := by
    have := jtext_seven a.keys a.parts 0 []
    rwa [← h.form] at this
  have h2 := jobj_first a.keys a.parts
  have h3 : (quo [65]).length = 3 := rfl
  rw [h1, frontO, jtext_seven]
  simp only [jobj, sep, List.length_cons, List.length_append, List.length_nil, h3]
  constructor
  · simp; omega
  · simp; omega
theorem frontO_get {m : Int} {a : JV} (k : List UInt8) (r : List (List UInt8)) (h : Plain a) (hk : Op.bytesLess [65] k = true) : getAt (k :: r) (frontO m a) = getAt (k :: r) a := by
  have hne : k ≠ [65] := fun e => by subst e; rw [bytesLess_irrefl] at hk; cases hk
  conv => rhs; rw [h.form]
  rw [frontO, getAt, getAt, place_cons, if_pos hk]
  by_cases hm : k ∈ a.keys
  · rw [if_pos hm, if_pos (List.mem_cons_of_mem _ hm)]; simp
  · rw [if_neg hm, if_neg (by simp [hm, hne])]
/-- What the turned object says. -/
theorem turned_says {v S : JV} {m : Int} (h : Obj0 v) (hf : ∀ k ∈ v.keys, Op.bytesLess [65] k = true) (hS : SOk S) (h0 : 0 ≤ m) (h1 : m < 1000) :
    sTextN (frontO m (insO sigK v S)) = 0 ∧ sTextL (frontO m (insO sigK v S)) = jtext (frontO m v) ∧ (jtext (frontO m v)).length ≤ 600 ∧ jtext v ≠ jtext (frontO m v) ∧ count (frontO m (insO sigK v S)) ≤ 1073741824 := by
  have hp := h.sealed hS
  have hk : ∀ k ∈ (insO sigK v S).keys, Op.bytesLess [65] k = true := fun k hk => by
    rcases mem_ins _ _ hk with e | e
    · subst e; decide
    · exact hf k e
  have hq := frontO_plain hp hk h0 h1
  have ht := (frontO_text (m := m) hp).1
  have hn := nuJ_text h0 h1
  have hst := h.sealed_text hS
  have hsm := h.sealed_many hS
  have hct : counts (frontO m (insO sigK v S)).parts = 1 + counts (insO sigK v S).parts := by
    show counts (nuJ m :: (insO sigK v S).parts) = _
    simp [counts, nuJ, count]
  have hc := hq.check (by rw [hct]; omega) (by omega)
  have hs := sText_of hc hq.kind
  have hv := frontO_text (m := m) h.plain
  have hvt := h.text
  refine ⟨hs.1, by rw [hs.2, frontO_strip, h.sealed_strip], by omega, fun e => by rw [← e] at hv; omega, ?_⟩
  rw [hq.form]; simp only [count]; rw [hct]; omega
theorem hash_iff {a k x y : Nat} (ha : Sec a) (hx : x < 3911) (hy : y < 3911) : ((k + a * x) % 3911 = (k + a * y) % 3911) ↔ x = y := by
  constructor
  · intro h1
    have h2 : x * a % 3911 = y * a % 3911 := by
      rw [Nat.mul_comm x, Nat.mul_comm y]
      generalize a * x = u at *
      generalize a * y = v at *
      omega
    have := mul_cancel (h := a) (by rw [Nat.mod_eq_of_lt ha.lt]; have := ha.one; omega) h2
    rwa [Nat.mod_eq_of_lt hx, Nat.mod_eq_of_lt hy] at this
  · intro h1; rw [h1]

/-! ### memory -/
theorem VIn.opened {w : World} {B : Nat} {v : JV} {k n : Int} {t : List UInt8} {Ak : Option Addr} {nk ck : Nat} {Ap : Option Addr} {np cp : Nat} (h : VIn w B v [.int .i64 k, .int .i64 n, str t, .slice Ak nk ck, .slice Ap np cp]) :
    ∃ pc, nk = v.keys.length ∧ np = v.parts.length ∧ v.keys.length ≤ 1048576 ∧ v.parts.length ≤ 1048576 ∧ (∀ s ∈ v.keys, s.length ≤ 1048576) ∧ Holds w B 1 Ak nk (v.keys.map str) ∧ Holds w B 5 Ap np pc ∧ PIn w B v.parts pc := by
  have h1 := h.nkeys
  cases v with
  | mk k' n' t' ks ps =>
    unfold VIn at h
    obtain ⟨Ak', ck', Ap', cp', pc, hcs, _, _, _, h5, h6, h7, _, _, h10, h11, h12⟩ := h
    injection hcs with _ hcs; injection hcs with _ hcs; injection hcs with _ hcs; injection hcs with e4 hcs; injection hcs with e5 hcs
    injection e4 with e41 e42 _
    injection e5 with e51 e52 _
    subst e41 e42 e51 e52
    exact ⟨pc, rfl, rfl, h5, h6, h7, h10, h11, h12⟩
/-- A list of keys appended to a row of the call's own. -/
theorem app_keys {W : World} {B base nk ck : Nat} {v : Value} {l ks : List (List UInt8)} {Ak : Option Addr} (hown : W.ownsRow base 9 1 v l.length (l.map str)) (hh : Holds W B 1 Ak nk (ks.map str)) (hn : nk = ks.length) (h0 : 0 < nk) (hb : l.length + nk ≤ 2097152) (hB : base ≤ W.heap.size) (ty : TypeId) :
    ∃ A' c' w', (Builtin.append_ #[22, 22] ty #[v, .slice Ak nk ck]).run Tryz.prog W = .ok (.slice A' (l.length + nk) c') w' ∧ w'.ownsRow base 9 1 (.slice A' (l.length + nk) c') (l.length + nk) ((l ++ ks).map str) ∧ W.grownBy w' v.ownBlock := by
  obtain ⟨i0, hi0, hz0, hz1, hz2⟩ := info_parts sl_info_str
  obtain ⟨b, off, rfl, _, hc⟩ := hh.2 h0
  obtain ⟨v', w', hrun, k1, k2, _, _⟩ := run_append_own_at (P := Tryz.prog) W base 22 ty 9 i0 _ 1 16 Tryz.underlying22 hi0 hz0 hz1 hz2 rfl (by decide) v l.length _ hown ⟨b, off, none⟩ nk ck (ks.map str) (by simp [hn])
    (fun j u hu => by rw [plus_addr]; exact hc j u hu) (sl_str_one ks) (by unfold maxLen; omega) (by omega) hB
  obtain ⟨A', c', rfl, _⟩ := own_form k1
  exact ⟨A', c', w', hrun, by rw [List.map_append]; exact k1, k2⟩
theorem pin_one : ∀ {w : World} {B : Nat} {ps : List JV} {pc : List Value}, PIn w B ps pc → pc.length = ps.length * 5 ∧ ∀ u ∈ pc, u.oneCell' = true
  | w, B, [], pc, h => by unfold PIn at h; subst h; simp
  | w, B, p :: r, pc, h => by
    unfold PIn at h
    obtain ⟨c, rest, rfl, h1, h2⟩ := h
    have h3 := pin_one h2
    have h4 := h1.len
    refine ⟨by simp; omega, fun u hu => ?_⟩
    rcases List.mem_append.1 hu with hu | hu
    · exact h1.one u hu
    · exact h3.2 u hu
/-- A list of parts appended to a row of the call's own. -/
theorem app_parts {W : World} {B base np cp n : Nat} {v : Value} {xs pc : List Value} {ps : List JV} {Ap : Option Addr} (hown : W.ownsRow base 25 5 v n xs) (hh : Holds W B 5 Ap np pc) (hp : PIn W B ps pc) (hn : np = ps.length) (h0 : 0 < np) (hb : n + np ≤ 2097152) (hB : base ≤ W.heap.size) (ty : TypeId) :
    ∃ A' c' w', (Builtin.append_ #[23, 23] ty #[v, .slice Ap np cp]).run Tryz.prog W = .ok (.slice A' (n + np) c') w' ∧ w'.ownsRow base 25 5 (.slice A' (n + np) c') (n + np) (xs ++ pc) ∧ W.grownBy w' v.ownBlock := by
  obtain ⟨i0, hi0, hz0, hz1, hz2⟩ := info_parts sl_info_val
  obtain ⟨b, off, rfl, _, hc⟩ := hh.2 h0
  obtain ⟨v', w', hrun, k1, k2, _, _⟩ := run_append_own_at (P := Tryz.prog) W base 23 ty 25 i0 _ 5 80 Tryz.underlying23 hi0 hz0 hz1 hz2 rfl (by decide) v n _ hown ⟨b, off, none⟩ np cp pc (by rw [(pin_one hp).1, hn])
    (fun j u hu => by rw [plus_addr]; exact hc j u hu) (pin_one hp).2 (by unfold maxLen; omega) (by omega) hB
  obtain ⟨A', c', rfl, _⟩ := own_form k1
  exact ⟨A', c', w', hrun, k1, k2⟩
theorem VBx.belowN {W W' : World} {g N : Nat} {v : JV} {k n : Int} {t : List UInt8} {Ak : Option Addr} {nk ck : Nat} {Ap : Option Addr} {np cp : Nat} (h : VBx W g v k n t Ak nk ck Ap np cp) (hb : Below N W W') (hg : g < N) : VBx W' g v k n t Ak nk ck Ap np cp :=
  ⟨h.box.below hb hg, h.val.below (hb.mono (Nat.le_of_lt hg))⟩
/-- The object with the number, out of its two rows. -/
theorem front_in {W : World} {B : Nat} {J : JV} {m : Int} {A8 A9 : Option Addr} {c8 c9 b8 b9 nk np : Nat} {pc : List Value} (h8 : W.ownsRow b8 9 1 (.slice A8 (1 + nk) c8) (1 + nk) (([65] :: J.keys).map str)) (h9 : W.ownsRow b9 25 5 (.slice A9 (1 + np) c9) (1 + np) ([.int .i64 4, .int .i64 m, str [], .slice none 0 0, .slice none 0 0] ++ pc))
    (hp : PIn W B J.parts pc) (hB : B ≤ W.heap.size) (hk : nk = J.keys.length) (hn : np = J.parts.length) (hk1 : J.keys.length ≤ 1048575) (hp1 : J.parts.length ≤ 1048575) (hs : ∀ s ∈ J.keys, s.length ≤ 1048576) (h0 : 0 ≤ m) (h1 : m < 1000) :
    VIn W W.heap.size (frontO m J) [.int .i64 7, .int .i64 0, str [], .slice A8 (1 + nk) c8, .slice A9 (1 + np) c9] := by
  have e1 : 1 + nk = ([65] :: J.keys).length := by simp; omega
  have e2 : 1 + np = (nuJ m :: J.parts).length := by simp; omega
  have g8 := Holds.own h8
  have g9 := Holds.own h9
  have k8 := sl_own_cap h8
  have k9 := sl_own_cap h9
  rw [e1] at g8 k8 ⊢
  rw [e2] at g9 k9 ⊢
  unfold frontO VIn
  refine ⟨A8, c8, A9, c9, _, rfl, by omega, by omega, by simp, by simp; omega, by simp; omega, ?_, k8, k9, g8, g9, ?_⟩
  · intro s hs'
    rcases List.mem_cons.1 hs' with rfl | hs'
    · simp
    · exact hs s hs'
  · unfold PIn
    refine ⟨_, pc, rfl, ?_, PIn.wider hB _ _ hp⟩
    unfold nuJ VIn
    exact ⟨none, 0, none, 0, [], rfl, by omega, by omega, by simp, by simp, by simp, by simp, by simp, by simp, Holds.empty, Holds.empty, by unfold PIn; rfl⟩
end Go.Proofs.YthkbeliplibiaaaGreatDoor

/- A sealed object with something unsigned put in (statement SealGood). -/
namespace Go.Proofs.YthkbeliplibiaaaGreatDoor
set_option linter.unusedVariables false
set_option linter.unusedSimpArgs false
open Go.RowKit
/-- What the object with the unsigned number says. -/
theorem uns_says {v S : JV} (h : Obj0 v) (hS : SOk S) :
    sTextN (insO unsK (insO sigK v S) (nuJ 5)) = 0 ∧ sTextL (insO unsK (insO sigK v S) (nuJ 5)) = jtext v ∧ (∀ r, getAt (sigK :: r) (insO unsK (insO sigK v S) (nuJ 5)) = getAt r S) ∧ count (insO unsK (insO sigK v S) (nuJ 5)) ≤ 1073741824 := by
  have hp := h.sealed hS
  have hn : unsK ∉ (insO sigK v S).keys := fun hm => by
    rcases mem_ins _ _ hm with e | e
    · exact absurd e (by decide)
    · exact h.uns e
  have hq := hp.insO (S := nuJ 5) hn (nuJ_fault (by omega) (by omega) (by omega))
  have ht := insO_text (k := unsK) (S := nuJ 5) hp
  have hnt := nuJ_text (m := 5) (by omega) (by omega)
  have hst := h.sealed_text hS
  have hsm := h.sealed_many hS
  have hct := insO_counts unsK (insO sigK v S) (nuJ 5)
  have hone : Go.Proofs.YthkbeliplibiaaaGreatDoor.count (nuJ 5) = 1 := rfl
  rw [quo_uns] at ht
  have hc := hq.check (by omega) (by omega)
  have hs := sText_of hc hq.kind
  refine ⟨hs.1, by rw [hs.2, insO_strip hp omit_uns, h.sealed_strip], fun r => ?_, ?_⟩
  · rw [insO_back r hp (ins_mem _ _ _ (place_le _ _)) (by decide), insO_get sigK r h.plain]
  · rw [hq.form]; simp only [count]; omega
/-- Where the object's keys lead to: the last key is smaller than the unsigned one, or it is the fifth and greater. -/
theorem good_keys {v S : JV} (h : ObjM v) : (∃ q : Nat, q ≤ 4 ∧ (insO sigK v S).keys.length = q + 1 ∧ (∃ kl, (insO sigK v S).keys[q]? = some kl ∧ Op.bytesLess unsK kl = false) ∧ place (insO sigK v S).keys unsK = q + 1) ∨
    ((insO sigK v S).keys.length = 5 ∧ (∃ k3, (insO sigK v S).keys[3]? = some k3 ∧ Op.bytesLess unsK k3 = false) ∧ (∃ k4, (insO sigK v S).keys[4]? = some k4 ∧ Op.bytesLess unsK k4 = true) ∧ place (insO sigK v S).keys unsK = 4) := by
  obtain ⟨m, hm⟩ := h.keys
  have e : (insO sigK v S).keys = (okL.take m).insertIdx (place (okL.take m) sigK) sigK := by show v.keys.insertIdx (place v.keys sigK) sigK = _; rw [hm]
  rw [e]
  match m with
  | 0 => exact .inl ⟨0, by decide, by decide, ⟨sigK, by decide, by decide⟩, by decide⟩
  | 1 => exact .inl ⟨1, by decide, by decide, ⟨sigK, by decide, by decide⟩, by decide⟩
  | 2 => exact .inl ⟨2, by decide, by decide, ⟨sigK, by decide, by decide⟩, by decide⟩
  | 3 => exact .inl ⟨3, by decide, by decide, ⟨sigK, by decide, by decide⟩, by decide⟩
  | m + 4 =>
    rw [List.take_of_length_le (by simp [okL])]
    exact .inr ⟨by decide, ⟨sigK, by decide, by decide⟩, ⟨[117, 115, 101, 114, 95, 105, 100], by decide, by decide⟩, by decide⟩
end Go.Proofs.YthkbeliplibiaaaGreatDoor

/- The rows of an object with something unsigned put in (statement SealGood). -/
namespace Go.Proofs.YthkbeliplibiaaaGreatDoor
set_option linter.unusedVariables false
set_option linter.unusedSimpArgs false
open Go.RowKit
theorem PIn.ins {w : World} {B : Nat} {v : JV} {c : List Value} (hv : VIn w B v c) : ∀ {ps : List JV} {pc : List Value} (i : Nat), i ≤ ps.length → PIn w B ps pc → PIn w B (ps.insertIdx i v) (pc.take (i * 5) ++ c ++ pc.drop (i * 5))
  | ps, pc, 0, _, h => by
    rw [List.insertIdx_zero]
    unfold PIn
    exact ⟨c, pc, by simp, hv, h⟩
  | [], pc, i + 1, hi, h => by simp at hi
  | p :: r, pc, i + 1, hi, h => by
    rw [List.insertIdx_succ_cons]
    unfold PIn at h ⊢
    obtain ⟨c', rest, rfl, h2, h3⟩ := h
    have hl := h2.len
    refine ⟨c', rest.take (i * 5) ++ c ++ rest.drop (i * 5), ?_, h2, PIn.ins hv i (by simpa using hi) h3⟩
    rw [show (i + 1) * 5 = c'.length + i * 5 by omega, List.take_length_add_append, List.drop_length_add_append]
    simp
def fiveC : List Value := [.int .i64 4, .int .i64 5, str [], .slice none 0 0, .slice none 0 0]
theorem nu5_in (W : World) (B : Nat) : VIn W B (nuJ 5) fiveC := by
  unfold nuJ VIn
  exact ⟨none, 0, none, 0, [], rfl, by omega, by omega, by simp, by simp, by simp, by simp, by simp, by simp, Holds.empty, Holds.empty, by unfold PIn; rfl⟩
/-- The object with the unsigned number, out of its two rows. -/
theorem uns_in {W : World} {B : Nat} {J : JV} {A8 A9 : Option Addr} {c8 c9 b8 b9 nk pl : Nat} {pc : List Value} (hpl : pl = place J.keys unsK) (h8 : W.ownsRow b8 9 1 (.slice A8 (nk + 1) c8) (nk + 1) ((J.keys.insertIdx pl unsK).map str)) (h9 : W.ownsRow b9 25 5 (.slice A9 (nk + 1) c9) (nk + 1) (pc.take (pl * 5) ++ fiveC ++ pc.drop (pl * 5)))
    (hp : PIn W B J.parts pc) (hB : B ≤ W.heap.size) (hk : nk = J.keys.length) (hn : nk = J.parts.length) (hk1 : nk ≤ 5) (hs : ∀ s ∈ J.keys, s.length ≤ 1048576) :
    VIn W W.heap.size (insO unsK J (nuJ 5)) [.int .i64 7, .int .i64 0, str [], .slice A8 (nk + 1) c8, .slice A9 (nk + 1) c9] := by
  subst hpl
  have hple := place_le J.keys unsK
  have e1 : nk + 1 = (J.keys.insertIdx (place J.keys unsK) unsK).length := by rw [ins_len _ _ _ hple]; omega
  have e2 : nk + 1 = (J.parts.insertIdx (place J.keys unsK) (nuJ 5)).length := by rw [ins_len _ _ _ (by omega)]; omega
  have g8 := Holds.own h8
  have g9 := Holds.own h9
  have k8 := sl_own_cap h8
  have k9 := sl_own_cap h9
  have hpp := PIn.ins (nu5_in W B) (place J.keys unsK) (by omega) hp
  unfold insO VIn
  refine ⟨A8, c8, A9, c9, pc.take (place J.keys unsK * 5) ++ fiveC ++ pc.drop (place J.keys unsK * 5), by rw [← e1, ← e2], by omega, by omega, by simp, by omega, by omega, ?_, by omega, by omega, by rw [← e1]; exact g8, by rw [← e2]; exact g9, PIn.wider hB _ _ hpp⟩
  intro s hs'
  rcases mem_ins _ _ hs' with rfl | hs'
  · decide
  · exact hs s hs'
theorem len_25 {pc : List Value} (h : pc.length = 25) : ∃ q a b c d e, pc = q ++ [a, b, c, d, e] ∧ q.length = 20 := by
  refine ⟨pc.take 20, pc[20], pc[21], pc[22], pc[23], pc[24], ?_, by simp [h]⟩
  apply List.ext_getElem
  · simp [h]
  · intro i h1 h2
    by_cases hi : i < 20
    · rw [List.getElem_append_left (by simp; omega)]; simp
    · rw [List.getElem_append_right (by simp; omega)]
      have : i = 20 ∨ i = 21 ∨ i = 22 ∨ i = 23 ∨ i = 24 := by omega
      simp only [List.length_take, h]
      rcases this with rfl | rfl | rfl | rfl | rfl <;> simp
theorem swap_parts {q : List Value} (hq : q.length = 20) (a b c d e f0 f1 f2 f3 f4 : Value) :
    ((((((((((q ++ [a, b, c, d, e] ++ [f0, f1, f2, f3, f4]).set 20 f0).set 21 f1).set 22 f2).set 23 f3).set 24 f4).set 25 a).set 26 b).set 27 c).set 28 d).set 29 e = (q ++ [a, b, c, d, e]).take 20 ++ [f0, f1, f2, f3, f4] ++ (q ++ [a, b, c, d, e]).drop 20 := by
  rw [← hq, List.take_left, List.drop_left, List.append_assoc]
  simp only [List.set_append_right, Nat.le_refl, Nat.le_add_right, Nat.sub_self, Nat.add_sub_cancel_left, hq]
  rw [List.append_assoc]
  simp [List.set_append_right, hq]
theorem swap_keys {l : List (List UInt8)} {k4 u : List UInt8} (h : l.length = 5) (h4 : l[4]? = some k4) : (((l ++ [u]).map str).set 4 (str u)).set 5 (str k4) = (l.insertIdx 4 u).map str := by
  match l, h with
  | [x0, x1, x2, x3, x4], _ =>
    simp at h4
    subst h4
    simp
end Go.Proofs.YthkbeliplibiaaaGreatDoor

/- Two members of an object's rows change places (statement SealGood). -/
namespace Go.Proofs.YthkbeliplibiaaaGreatDoor
set_option linter.unusedVariables false
set_option linter.unusedSimpArgs false
open Go.RowKit
theorem own_at {w : World} {base e size n c : Nat} {A : Option Addr} {xs : List Value} (h : w.ownsRow base e size (.slice A n c) n xs) (hn : 0 < n) : ∃ g, A = some ⟨g, 0, none⟩ ∧ base ≤ g ∧ g < w.heap.size := by
  rcases h.2 with ⟨hv, _⟩ | ⟨g, cap, cur, hv, hb, hg, _⟩
  · injection hv with _ hv _; omega
  · injection hv with hv _ _
    exact ⟨g, hv, hb, by
      rcases Nat.lt_or_ge g w.heap.size with h1 | h1
      · exact h1
      · rw [Array.getElem?_eq_none h1] at hg; cases hg⟩
theorem five_parts {W : World} {B : Nat} {ps : List JV} {pc : List Value} (hp : PIn W B ps pc) (hl : ps.length = 5) : ∃ q k n t Ak nk ck Ap np cp, pc = q ++ [.int .i64 k, .int .i64 n, str t, .slice Ak nk ck, .slice Ap np cp] ∧ q.length = 20 := by
  match ps, hl with
  | [p0, p1, p2, p3, p4], _ =>
    unfold PIn at hp
    obtain ⟨a0, r0, rfl, v0, hp⟩ := hp
    unfold PIn at hp
    obtain ⟨a1, r1, rfl, v1, hp⟩ := hp
    unfold PIn at hp
    obtain ⟨a2, r2, rfl, v2, hp⟩ := hp
    unfold PIn at hp
    obtain ⟨a3, r3, rfl, v3, hp⟩ := hp
    unfold PIn at hp
    obtain ⟨a4, r4, rfl, v4, hp⟩ := hp
    unfold PIn at hp
    subst hp
    obtain ⟨k, n, t, Ak, nk, ck, Ap, np, cp, rfl⟩ := v4.form
    have h0 := v0.len
    have h1 := v1.len
    have h2 := v2.len
    have h3 := v3.len
    exact ⟨a0 ++ a1 ++ a2 ++ a3, k, n, t, Ak, nk, ck, Ap, np, cp, by simp, by simp; omega⟩
/-- Both rows, apart. -/
structure Rows2 (W : World) (base bk bp n ck cp : Nat) (xs ys : List Value) : Prop where
  keys : W.ownsRow base 9 1 (.slice (some ⟨bk, 0, none⟩) n ck) n xs
  parts : W.ownsRow base 25 5 (.slice (some ⟨bp, 0, none⟩) n cp) n ys
  ne : bk ≠ bp
section
variable {W : World} {base bk bp n ck cp : Nat} {xs ys : List Value}
theorem Rows2.setK (h : Rows2 W base bk bp n ck cp xs ys) (j : Nat) (u : Value) : Rows2 (W.setCell ⟨bk, j, none⟩ u) base bk bp n ck cp (xs.set j u) ys :=
  ⟨(h.keys.stored j u).1, World.ownsRow.kept h.parts (h.keys.stored j u).2 (.inr (by simp [Value.ownBlock, Ne.symm h.ne])), h.ne⟩
theorem Rows2.setP (h : Rows2 W base bk bp n ck cp xs ys) (j : Nat) (u : Value) : Rows2 (W.setCell ⟨bp, j, none⟩ u) base bk bp n ck cp xs (ys.set j u) :=
  ⟨World.ownsRow.kept h.keys (h.parts.stored j u).2 (.inr (by simp [Value.ownBlock, h.ne])), (h.parts.stored j u).1, h.ne⟩
theorem Rows2.bases (h : Rows2 W base bk bp n ck cp xs ys) : base ≤ bk ∧ base ≤ bp := by
  have h1 := World.ownsRow.lt h.keys bk rfl
  have h2 := World.ownsRow.lt h.parts bp rfl
  exact ⟨h1.1, h2.1⟩
end
/-- The world in which the members 4 and 5 have changed places. -/
def swapW (W : World) (bk bp : Nat) (u4 u5 f0 f1 f2 f3 f4 a b c d e : Value) : World :=
  (((((((((((W.setCell ⟨bk, 4, none⟩ u4).setCell ⟨bk, 5, none⟩ u5).setCell ⟨bp, 20, none⟩ f0).setCell ⟨bp, 21, none⟩ f1).setCell ⟨bp, 22, none⟩ f2).setCell ⟨bp, 23, none⟩ f3).setCell ⟨bp, 24, none⟩ f4).setCell ⟨bp, 25, none⟩ a).setCell ⟨bp, 26, none⟩ b).setCell ⟨bp, 27, none⟩ c).setCell ⟨bp, 28, none⟩ d).setCell ⟨bp, 29, none⟩ e
theorem swapW_rows {W : World} {base bk bp n ck cp : Nat} {xs ys : List Value} (h : Rows2 W base bk bp n ck cp xs ys) (u4 u5 f0 f1 f2 f3 f4 a b c d e : Value) :
    Rows2 (swapW W bk bp u4 u5 f0 f1 f2 f3 f4 a b c d e) base bk bp n ck cp ((xs.set 4 u4).set 5 u5) ((((((((((ys.set 20 f0).set 21 f1).set 22 f2).set 23 f3).set 24 f4).set 25 a).set 26 b).set 27 c).set 28 d).set 29 e) :=
  (((((((((((h.setK 4 u4).setK 5 u5).setP 20 f0).setP 21 f1).setP 22 f2).setP 23 f3).setP 24 f4).setP 25 a).setP 26 b).setP 27 c).setP 28 d).setP 29 e
theorem swapW_below {W : World} {base bk bp : Nat} (h1 : base ≤ bk) (h2 : base ≤ bp) (u4 u5 f0 f1 f2 f3 f4 a b c d e : Value) : Below base W (swapW W bk bp u4 u5 f0 f1 f2 f3 f4 a b c d e) :=
  (((((((((((((Below.refl base W).setCell (p := ⟨bk, 4, none⟩) h1 u4).setCell (p := ⟨bk, 5, none⟩) h1 u5).setCell (p := ⟨bp, 20, none⟩) h2 f0).setCell (p := ⟨bp, 21, none⟩) h2 f1).setCell (p := ⟨bp, 22, none⟩) h2 f2).setCell (p := ⟨bp, 23, none⟩) h2 f3).setCell (p := ⟨bp, 24, none⟩) h2 f4).setCell (p := ⟨bp, 25, none⟩) h2 a).setCell (p := ⟨bp, 26, none⟩) h2 b).setCell (p := ⟨bp, 27, none⟩) h2 c).setCell (p := ⟨bp, 28, none⟩) h2 d).setCell (p := ⟨bp, 29, none⟩) h2 e)
end Go.Proofs.YthkbeliplibiaaaGreatDoor

/- Strings compared with '>' and '>='. -/
namespace Go.Proofs.YthkbeliplibiaaaGreatDoor
set_option linter.unusedVariables false
set_option linter.unusedSimpArgs false
open Go.RowKit
theorem less_turn (a b : List UInt8) : (!Op.bytesLess a b && !a == b) = Op.bytesLess b a := by
  cases h1 : Op.bytesLess a b
  · cases h2 : Op.bytesLess b a
    · have := bytesLess_total a b h1 h2
      subst this
      simp
    · have hne : a ≠ b := fun e => by subst e; rw [h1] at h2; cases h2
      simpa using hne
  · cases h2 : Op.bytesLess b a
    · rfl
    · have := bytesLess_trans _ _ _ h1 h2
      rw [bytesLess_irrefl] at this; cases this
@[go_sem high] theorem run_str_gtr (w : World) (a b : List UInt8) : (binOp BinOp.gtr 9 (str a) (str b)).run Tryz.prog w = .ok (.bool (Op.bytesLess b a)) w := by
  rw [← less_turn a b]
  simp [str, go_sem]
@[go_sem high] theorem run_str_geq (w : World) (a b : List UInt8) : (binOp BinOp.geq 9 (str a) (str b)).run Tryz.prog w = .ok (.bool (!Op.bytesLess a b)) w := by
  simp [str, go_sem]
end Go.Proofs.YthkbeliplibiaaaGreatDoor
