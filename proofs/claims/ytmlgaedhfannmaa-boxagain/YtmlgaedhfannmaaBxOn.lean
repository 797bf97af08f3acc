/- The message box: sends one behind the other, each message once. Nothing of the program's memory is named here. -/
import Derived.Test.YtmlgaedhfannmaaBxAll
namespace Go.Proofs.Ytmlgaedhfannmaa
set_option linter.unusedVariables false
set_option linter.unusedSimpArgs false
/-- What is accepted of a list of sends, none of which is refused. -/
def dd : List Pt → List Pt → List Pt
  | D, [] => D
  | D, p :: b => if hadR D p = true then dd D b else dd (D ++ [p]) b
theorem dd_app : ∀ (a b D : List Pt), dd D (a ++ b) = dd (dd D a) b
  | [], _, _ => rfl
  | p :: a, b, D => by
    simp only [List.cons_append, dd]
    split <;> exact dd_app a b _
theorem dd_pre : ∀ (b D : List Pt), ∃ e, dd D b = D ++ e ∧ e.length ≤ b.length ∧ ∀ q ∈ e, q ∈ b
  | [], D => ⟨[], by simp [dd], by simp, by simp⟩
  | p :: b, D => by
    simp only [dd]
    split
    · obtain ⟨e, h1, h2, h3⟩ := dd_pre b D
      exact ⟨e, h1, by simp; omega, fun q hq => by simp [h3 q hq]⟩
    · obtain ⟨e, h1, h2, h3⟩ := dd_pre b (D ++ [p])
      refine ⟨p :: e, by rw [h1]; simp, by simp; omega, fun q hq => ?_⟩
      rcases List.mem_cons.1 hq with rfl | hq
      · simp
      · simp [h3 q hq]
/-- A send that is a good one. -/
def GoodS (p : Pt) : Prop := p.kind = 1 ∧ 0 ≤ p.txn ∧ user p.frm ≠ none ∧ p.body.length ≤ 20
theorem send_had {acc : List Pt} {g : Nat} {p : Pt} (h : GoodS p) (hh : hadR acc p = true) : gotB ⟨acc, g, false⟩ p = (⟨0, (acc.length : Int), []⟩, ⟨acc, g, false⟩) := by
  obtain ⟨hk, ht, hu, hb⟩ := h
  have hx : execB ⟨acc, g, false⟩ p = ([], 0, ⟨acc, g, false⟩) := by
    unfold execB
    rw [if_pos hk]
    unfold sendR
    rw [if_neg (by omega), if_neg hu, if_neg (by omega), if_pos (by simp [hh])]
  unfold gotB
  rw [hx, if_pos rfl]
theorem sends_R : ∀ (b D : List Pt) (g : Nat), (∀ p ∈ b, GoodS p) → D.length - g + b.length ≤ 10 → g ≤ D.length → (gotsB ⟨D, g, false⟩ b).2 = ⟨dd D b, g, false⟩
  | [], _, _, _, _, _ => rfl
  | p :: b, D, g, hG, hl, hg => by
    have hp := hG p (by simp)
    simp only [gotsB, dd]
    simp only [List.length_cons] at hl
    split
    · rename_i hh
      rw [send_had hp hh]
      exact sends_R b D g (fun q hq => hG q (by simp [hq])) (by omega) hg
    · rename_i hh
      rw [send_one hp.1 hp.2.1 hp.2.2.1 hp.2.2.2 (by simpa using hh) (by omega)]
      exact sends_R b (D ++ [p]) g (fun q hq => hG q (by simp [hq])) (by simp; omega) (by simp; omega)
/-- A fetch from a position behind what is gone. -/
theorem fetch_at (D : List Pt) (g a : Nat) (h1 : g ≤ a) (h2 : a ≤ D.length) : gotB ⟨D, g, false⟩ ⟨2, [], 0, [], (a : Int)⟩ = (⟨0, (D.length : Int), mlF a (D.drop a)⟩, ⟨D, a, false⟩) := by
  have hx : execB ⟨D, g, false⟩ ⟨2, [], 0, [], (a : Int)⟩ = (mlF a (D.drop a), 0, ⟨D, a, false⟩) := by
    unfold execB fetchR
    simp only [show ¬ ((2 : Int) = 1) by omega, if_false, if_true, Int.toNat_natCast, show ¬ ((a : Int) < 0) by omega, show ¬ ((D.length : Int) < (a : Int)) by omega, Bs.wait, show max g a = a by omega]
  unfold gotB
  rw [hx, if_pos rfl]
/-- A round: some sends, then a fetch from the last position. -/
theorem once_round {scr D b : List Pt} {g : Nat} (hs : (gotsB bs0 scr).2 = ⟨D, g, false⟩) (hg : g ≤ D.length) (hd : D.length ≤ g + 5) (hb : b.length ≤ 5) (hG : ∀ p ∈ b, GoodS p) :
    (gotsB bs0 (scr ++ b ++ [⟨2, [], 0, [], (D.length : Int)⟩])).2 = ⟨dd D b, D.length, false⟩ ∧
    (gotsB bs0 (scr ++ b ++ [⟨2, [], 0, [], (D.length : Int)⟩])).1[scr.length + b.length]? = some ⟨0, ((dd D b).length : Int), mlF D.length ((dd D b).drop D.length)⟩ ∧
    mlF 0 D ++ mlF D.length ((dd D b).drop D.length) = mlF 0 (dd D b) ∧ D.length ≤ (dd D b).length ∧ (dd D b).length ≤ D.length + 5 := by
  have h1 : (gotsB bs0 (scr ++ b)).2 = ⟨dd D b, g, false⟩ := by
    rw [gotsB_app]
    simp only
    rw [hs, sends_R b D g hG (by omega) hg]
  obtain ⟨e, he, hel, -⟩ := dd_pre b D
  have hle : D.length ≤ (dd D b).length := by rw [he]; simp
  have h2 := fetch_at (dd D b) g D.length hg hle
  refine ⟨?_, ?_, ?_, hle, by rw [he]; simp; omega⟩
  · rw [gotsB_snoc]
    simp only
    rw [h1, h2]
  · rw [gotsB_snoc]
    simp only
    rw [List.getElem?_append_right (by rw [gotsB_len]; simp), gotsB_len, List.length_append, Nat.sub_self, h1, h2]
    rfl
  · rw [he, mlF_app, Nat.zero_add]
    simp
theorem okP_good {p : Pt} (h : OkP p) (hk : p.kind = 1) : GoodS p := by
  have hu : ∀ i, i < 3 → user (pfo i) ≠ none := fun i hi => by
    have h0 : user [64, 97, 58, 120] = some ([97], [120]) := by decide +kernel
    have h1 : user [64, 98, 58, 120] = some ([98], [120]) := by decide +kernel
    have h2 : user [64, 97, 58, 121] = some ([97], [121]) := by decide +kernel
    rcases (by omega : i = 0 ∨ i = 1 ∨ i = 2) with rfl | rfl | rfl
    · show user [64, 97, 58, 120] ≠ none; rw [h0]; simp
    · show user [64, 98, 58, 120] ≠ none; rw [h1]; simp
    · show user [64, 97, 58, 121] ≠ none; rw [h2]; simp
  have hb : ∀ i, i < 3 → (pbo i).length ≤ 10 := fun i hi => by rcases (by omega : i = 0 ∨ i = 1 ∨ i = 2) with rfl | rfl | rfl <;> decide
  rcases h with ⟨_, ⟨i, hi, e⟩, ⟨t, ht, e3⟩, ⟨r, hr, e2⟩, _⟩ | ⟨e, _⟩ | ⟨e, _⟩
  · exact ⟨hk, by rw [e3]; omega, by rw [e]; exact hu i hi, by rw [e2]; have := hb r hr; omega⟩
  · omega
  · omega
theorem dd_step {l : List Pt} {i : Nat} (hi : i < l.length) : dd [] (l.take (i + 1)) = if hadR (dd [] (l.take i)) l[i] = true then dd [] (l.take i) else dd [] (l.take i) ++ [l[i]] := by
  rw [List.take_succ_eq_append_getElem hi, dd_app]
  simp only [dd]
/-- A send that had no error has been accepted; again, it has no effect. -/
theorem send_twice {s : Bs} {p : Pt} (hk : p.kind = 1) (h : (gotB s p).1.code = 0) : gotB (gotB s p).2 p = (⟨0, ((gotB s p).2.acc.length : Int), []⟩, (gotB s p).2) := by
  rw [got_code] at h
  rw [got_state]
  have hx : execB s p = ([], sendR s p) := by unfold execB; rw [if_pos hk]
  rw [hx] at h ⊢
  simp only at h ⊢
  have h2 : sendR (sendR s p).2 p = (0, (sendR s p).2) := by
    unfold sendR at h ⊢
    by_cases c1 : p.txn < 0
    · rw [if_pos c1] at h; cases h
    by_cases c2 : user p.frm = none
    · rw [if_neg c1, if_pos c2] at h; cases h
    by_cases c3 : 20 < p.body.length
    · rw [if_neg c1, if_neg c2, if_pos c3] at h; cases h
    by_cases c4 : hadR s.acc p = true
    · simp only [if_neg c1, if_neg c2, if_neg c3, if_pos c4]
    by_cases c5 : s.shut = true
    · rw [if_neg c1, if_neg c2, if_neg c3, if_neg c4, if_pos c5] at h; cases h
    by_cases c6 : 10 ≤ s.acc.length - s.gone
    · rw [if_neg c1, if_neg c2, if_neg c3, if_neg c4, if_neg c5, if_pos c6] at h; cases h
    have c7 : hadR (s.acc ++ [p]) p = true := by unfold hadR; simp
    simp only [if_neg c1, if_neg c2, if_neg c3, if_neg c4, if_neg c5, if_neg c6, if_pos c7]
  have hx2 : execB (sendR s p).2 p = ([], 0, (sendR s p).2) := by unfold execB; rw [if_pos hk, h2]
  unfold gotB
  rw [hx2, if_pos rfl]
/-- Two fetches from the same position. -/
theorem fetch_two {s : Bs} (c : Nat) (hc : c ≤ s.acc.length) : ∃ g s', gotB s ⟨2, [], 0, [], (c : Int)⟩ = (g, s') ∧ gotB s' ⟨2, [], 0, [], (c : Int)⟩ = (g, s') ∧ g.code = 0 := by
  obtain ⟨acc, gone, sh⟩ := s
  simp only at hc
  have key : ∀ gn, execB ⟨acc, gn, sh⟩ ⟨2, [], 0, [], (c : Int)⟩ = (({ acc := acc, gone := max gn c, shut := sh } : Bs).wait, 0, ⟨acc, max gn c, sh⟩) := fun gn => by
    unfold execB fetchR
    simp only [show ¬ ((2 : Int) = 1) by omega, if_false, if_true, Int.toNat_natCast, show ¬ ((c : Int) < 0) by omega, show ¬ ((acc.length : Int) < (c : Int)) by omega]
  refine ⟨⟨0, (acc.length : Int), ({ acc := acc, gone := max gone c, shut := sh } : Bs).wait⟩, ⟨acc, max gone c, sh⟩, ?_, ?_, rfl⟩
  · unfold gotB; rw [key, if_pos rfl]
  · unfold gotB; rw [key, if_pos rfl, show max (max gone c) c = max gone c by omega]
end Go.Proofs.Ytmlgaedhfannmaa
