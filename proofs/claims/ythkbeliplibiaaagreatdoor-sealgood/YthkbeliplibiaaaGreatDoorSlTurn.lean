/- An object with a number put ahead of all keys (statement SealTurned), and lists appended to rows of the call's own. -/
import Derived.Test.YthkbeliplibiaaaGreatDoorBunU
import Derived.Lib.ItoaLen
import Derived.Laws.OwnMore
namespace Go.Proofs.YthkbeliplibiaaaGreatDoor
set_option linter.unusedVariables false
set_option linter.unusedSimpArgs false
open Go.RowKit

/-! ### plain mathematics -/
def nuJ (m : Int) : JV := .mk 4 m [] [] []
def frontO (m : Int) (a : JV) : JV := .mk 7 0 [] ([65] :: a.keys) (nuJ m :: a.parts)
theorem nuJ_fault {m : Int} (h0 : 0 ≤ m) (h1 : m < 1000) {d : Nat} (hd : d < 6) : fault d (nuJ m) = 0 :=
  okAt_of (deep := 1) (by omega) (alone_num m (by omega) (by omega)) (fun d _ => by unfold faults; rfl) d (by omega)
theorem nuJ_text {m : Int} (h0 : 0 ≤ m) (h1 : m < 1000) : (jtext (nuJ m)).length ≤ 21 := by
  have := Lib.itoa_length_le m (by omega) (by omega)
  rw [nuJ, jtext]; simpa using this
theorem frontO_plain {m : Int} {a : JV} (h : Plain a) (hk : ∀ k ∈ a.keys, Op.bytesLess [65] k = true) (h0 : 0 ≤ m) (h1 : m < 1000) : Plain (frontO m a) :=
  ⟨rfl, by show ([65] :: a.keys).length = (nuJ m :: a.parts).length; simp [h.len], incr_cons.2 ⟨hk, h.incr⟩, by
    show faults 1 (nuJ m :: a.parts) = 0
    unfold faults; rw [nuJ_fault h0 h1 (by omega), if_neg (by simp)]; exact h.ok⟩
theorem frontO_strip (m : Int) (a : JV) : strip (frontO m a) = frontO m (strip a) := by
  unfold strip
  rw [show (frontO m a).keys = [65] :: a.keys from rfl, show (frontO m a).parts = nuJ m :: a.parts from rfl, wo_cons_no (by decide)]
  rfl
theorem frontO_text {m : Int} {a : JV} (h : Plain a) : (jtext (frontO m a)).length ≤ (jtext a).length + 5 + (jtext (nuJ m)).length ∧ (jtext a).length < (jtext (frontO m a)).length := by
  have h1 : jtext a = 123 :: (jobj true a.keys a.parts ++ [125]) := by
    have := jtext_seven a.keys a.parts 0 []
    rwa [← h.form] at this
  have h2 := jobj_first a.keys a.parts
  have h3 : (quo [65]).length = 3 := rfl
  rw [h1, frontO, jtext_seven]
  simp only [jobj, sep, List.length_cons, List.length_append, List.length_nil, h3]
  constructor
  · simp; omega
  · simp; omega
theorem frontO_get {m : Int} {a : JV} (k : List UInt8) (r : List (List UInt8)) (h : Plain a) (hk : Op.bytesLess [65] k = true) : getAt (k :: r) (frontO m a) = getAt (k :: r) a := by
  have hne : k ≠ [65] := fun e => by subst e; rw [bytesLess_irrefl] at hk; cases hk
  conv => rhs; rw [h.form]
  rw [frontO, getAt, getAt, place_cons, if_pos hk]
  by_cases hm : k ∈ a.keys
  · rw [if_pos hm, if_pos (List.mem_cons_of_mem _ hm)]; simp
  · rw [if_neg hm, if_neg (by simp [hm, hne])]
/-- What the turned object says. -/
theorem turned_says {v S : JV} {m : Int} (h : Obj0 v) (hf : ∀ k ∈ v.keys, Op.bytesLess [65] k = true) (hS : SOk S) (h0 : 0 ≤ m) (h1 : m < 1000) :
    sTextN (frontO m (insO sigK v S)) = 0 ∧ sTextL (frontO m (insO sigK v S)) = jtext (frontO m v) ∧ (jtext (frontO m v)).length ≤ 600 ∧ jtext v ≠ jtext (frontO m v) ∧ count (frontO m (insO sigK v S)) ≤ 1073741824 := by
  have hp := h.sealed hS
  have hk : ∀ k ∈ (insO sigK v S).keys, Op.bytesLess [65] k = true := fun k hk => by
    rcases mem_ins _ _ hk with e | e
    · subst e; decide
    · exact hf k e
  have hq := frontO_plain hp hk h0 h1
  have ht := (frontO_text (m := m) hp).1
  have hn := nuJ_text h0 h1
  have hst := h.sealed_text hS
  have hsm := h.sealed_many hS
  have hct : counts (frontO m (insO sigK v S)).parts = 1 + counts (insO sigK v S).parts := by
    show counts (nuJ m :: (insO sigK v S).parts) = _
    simp [counts, nuJ, count]
  have hc := hq.check (by rw [hct]; omega) (by omega)
  have hs := sText_of hc hq.kind
  have hv := frontO_text (m := m) h.plain
  have hvt := h.text
  refine ⟨hs.1, by rw [hs.2, frontO_strip, h.sealed_strip], by omega, fun e => by rw [← e] at hv; omega, ?_⟩
  rw [hq.form]; simp only [count]; rw [hct]; omega
theorem hash_iff {a k x y : Nat} (ha : Sec a) (hx : x < 3911) (hy : y < 3911) : ((k + a * x) % 3911 = (k + a * y) % 3911) ↔ x = y := by
  constructor
  · intro h1
    have h2 : x * a % 3911 = y * a % 3911 := by
      rw [Nat.mul_comm x, Nat.mul_comm y]
      generalize a * x = u at *
      generalize a * y = v at *
      omega
    have := mul_cancel (h := a) (by rw [Nat.mod_eq_of_lt ha.lt]; have := ha.one; omega) h2
    rwa [Nat.mod_eq_of_lt hx, Nat.mod_eq_of_lt hy] at this
  · intro h1; rw [h1]

/-! ### memory -/
theorem VIn.opened {w : World} {B : Nat} {v : JV} {k n : Int} {t : List UInt8} {Ak : Option Addr} {nk ck : Nat} {Ap : Option Addr} {np cp : Nat} (h : VIn w B v [.int .i64 k, .int .i64 n, str t, .slice Ak nk ck, .slice Ap np cp]) :
    ∃ pc, nk = v.keys.length ∧ np = v.parts.length ∧ v.keys.length ≤ 1048576 ∧ v.parts.length ≤ 1048576 ∧ (∀ s ∈ v.keys, s.length ≤ 1048576) ∧ Holds w B 1 Ak nk (v.keys.map str) ∧ Holds w B 5 Ap np pc ∧ PIn w B v.parts pc := by
  have h1 := h.nkeys
  cases v with
  | mk k' n' t' ks ps =>
    unfold VIn at h
    obtain ⟨Ak', ck', Ap', cp', pc, hcs, _, _, _, h5, h6, h7, _, _, h10, h11, h12⟩ := h
    injection hcs with _ hcs; injection hcs with _ hcs; injection hcs with _ hcs; injection hcs with e4 hcs; injection hcs with e5 hcs
    injection e4 with e41 e42 _
    injection e5 with e51 e52 _
    subst e41 e42 e51 e52
    exact ⟨pc, rfl, rfl, h5, h6, h7, h10, h11, h12⟩
/-- A list of keys appended to a row of the call's own. -/
theorem app_keys {W : World} {B base nk ck : Nat} {v : Value} {l ks : List (List UInt8)} {Ak : Option Addr} (hown : W.ownsRow base 9 1 v l.length (l.map str)) (hh : Holds W B 1 Ak nk (ks.map str)) (hn : nk = ks.length) (h0 : 0 < nk) (hb : l.length + nk ≤ 2097152) (hB : base ≤ W.heap.size) (ty : TypeId) :
    ∃ A' c' w', (Builtin.append_ #[22, 22] ty #[v, .slice Ak nk ck]).run Tryz.prog W = .ok (.slice A' (l.length + nk) c') w' ∧ w'.ownsRow base 9 1 (.slice A' (l.length + nk) c') (l.length + nk) ((l ++ ks).map str) ∧ W.grownBy w' v.ownBlock := by
  obtain ⟨i0, hi0, hz0, hz1, hz2⟩ := info_parts sl_info_str
  obtain ⟨b, off, rfl, _, hc⟩ := hh.2 h0
  obtain ⟨v', w', hrun, k1, k2, _, _⟩ := run_append_own_at (P := Tryz.prog) W base 22 ty 9 i0 _ 1 16 Tryz.underlying22 hi0 hz0 hz1 hz2 rfl (by decide) v l.length _ hown ⟨b, off, none⟩ nk ck (ks.map str) (by simp [hn])
    (fun j u hu => by rw [plus_addr]; exact hc j u hu) (sl_str_one ks) (by unfold maxLen; omega) (by omega) hB
  obtain ⟨A', c', rfl, _⟩ := own_form k1
  exact ⟨A', c', w', hrun, by rw [List.map_append]; exact k1, k2⟩
theorem pin_one : ∀ {w : World} {B : Nat} {ps : List JV} {pc : List Value}, PIn w B ps pc → pc.length = ps.length * 5 ∧ ∀ u ∈ pc, u.oneCell' = true
  | w, B, [], pc, h => by unfold PIn at h; subst h; simp
  | w, B, p :: r, pc, h => by
    unfold PIn at h
    obtain ⟨c, rest, rfl, h1, h2⟩ := h
    have h3 := pin_one h2
    have h4 := h1.len
    refine ⟨by simp; omega, fun u hu => ?_⟩
    rcases List.mem_append.1 hu with hu | hu
    · exact h1.one u hu
    · exact h3.2 u hu
/-- A list of parts appended to a row of the call's own. -/
theorem app_parts {W : World} {B base np cp n : Nat} {v : Value} {xs pc : List Value} {ps : List JV} {Ap : Option Addr} (hown : W.ownsRow base 25 5 v n xs) (hh : Holds W B 5 Ap np pc) (hp : PIn W B ps pc) (hn : np = ps.length) (h0 : 0 < np) (hb : n + np ≤ 2097152) (hB : base ≤ W.heap.size) (ty : TypeId) :
    ∃ A' c' w', (Builtin.append_ #[23, 23] ty #[v, .slice Ap np cp]).run Tryz.prog W = .ok (.slice A' (n + np) c') w' ∧ w'.ownsRow base 25 5 (.slice A' (n + np) c') (n + np) (xs ++ pc) ∧ W.grownBy w' v.ownBlock := by
  obtain ⟨i0, hi0, hz0, hz1, hz2⟩ := info_parts sl_info_val
  obtain ⟨b, off, rfl, _, hc⟩ := hh.2 h0
  obtain ⟨v', w', hrun, k1, k2, _, _⟩ := run_append_own_at (P := Tryz.prog) W base 23 ty 25 i0 _ 5 80 Tryz.underlying23 hi0 hz0 hz1 hz2 rfl (by decide) v n _ hown ⟨b, off, none⟩ np cp pc (by rw [(pin_one hp).1, hn])
    (fun j u hu => by rw [plus_addr]; exact hc j u hu) (pin_one hp).2 (by unfold maxLen; omega) (by omega) hB
  obtain ⟨A', c', rfl, _⟩ := own_form k1
  exact ⟨A', c', w', hrun, k1, k2⟩
theorem VBx.belowN {W W' : World} {g N : Nat} {v : JV} {k n : Int} {t : List UInt8} {Ak : Option Addr} {nk ck : Nat} {Ap : Option Addr} {np cp : Nat} (h : VBx W g v k n t Ak nk ck Ap np cp) (hb : Below N W W') (hg : g < N) : VBx W' g v k n t Ak nk ck Ap np cp :=
  ⟨h.box.below hb hg, h.val.below (hb.mono (Nat.le_of_lt hg))⟩
/-- The object with the number, out of its two rows. -/
theorem front_in {W : World} {B : Nat} {J : JV} {m : Int} {A8 A9 : Option Addr} {c8 c9 b8 b9 nk np : Nat} {pc : List Value} (h8 : W.ownsRow b8 9 1 (.slice A8 (1 + nk) c8) (1 + nk) (([65] :: J.keys).map str)) (h9 : W.ownsRow b9 25 5 (.slice A9 (1 + np) c9) (1 + np) ([.int .i64 4, .int .i64 m, str [], .slice none 0 0, .slice none 0 0] ++ pc))
    (hp : PIn W B J.parts pc) (hB : B ≤ W.heap.size) (hk : nk = J.keys.length) (hn : np = J.parts.length) (hk1 : J.keys.length ≤ 1048575) (hp1 : J.parts.length ≤ 1048575) (hs : ∀ s ∈ J.keys, s.length ≤ 1048576) (h0 : 0 ≤ m) (h1 : m < 1000) :
    VIn W W.heap.size (frontO m J) [.int .i64 7, .int .i64 0, str [], .slice A8 (1 + nk) c8, .slice A9 (1 + np) c9] := by
  have e1 : 1 + nk = ([65] :: J.keys).length := by simp; omega
  have e2 : 1 + np = (nuJ m :: J.parts).length := by simp; omega
  have g8 := Holds.own h8
  have g9 := Holds.own h9
  have k8 := sl_own_cap h8
  have k9 := sl_own_cap h9
  rw [e1] at g8 k8 ⊢
  rw [e2] at g9 k9 ⊢
  unfold frontO VIn
  refine ⟨A8, c8, A9, c9, _, rfl, by omega, by omega, by simp, by simp; omega, by simp; omega, ?_, k8, k9, g8, g9, ?_⟩
  · intro s hs'
    rcases List.mem_cons.1 hs' with rfl | hs'
    · simp
    · exact hs s hs'
  · unfold PIn
    refine ⟨_, pc, rfl, ?_, PIn.wider hB _ _ hp⟩
    unfold nuJ VIn
    exact ⟨none, 0, none, 0, [], rfl, by omega, by omega, by simp, by simp, by simp, by simp, by simp, by simp, Holds.empty, Holds.empty, by unfold PIn; rfl⟩
end Go.Proofs.YthkbeliplibiaaaGreatDoor
