/- The message box: messages that are all accepted; rows of strings. -/
import Derived.Test.YtmlgaedhfannmaaBxPd
namespace Go.Proofs.Ytmlgaedhfannmaa
set_option linter.unusedVariables false
set_option linter.unusedSimpArgs false
open Go.RowKit
def stL (s : List UInt8) : List Value := [str s]
theorem stL_len (s : List UInt8) : (stL s).length = 1 := rfl
theorem stL_one (s : List UInt8) : ∀ u ∈ stL s, u.oneCell' = true := by intro u hu; simp [stL] at hu; subst hu; rfl
theorem info_st : (Try.prog.info? 9).map (fun i => (i.zero, i.size, i.bytes)) = some (some (.string ⟨#[]⟩), 1, 16) := by kernel_rfl
theorem st_at {w : World} {B n c i : Nat} {A : Option Addr} {l : List (List UInt8)} (h : LIn stL 1 w B A n c l) (hi : i < l.length) :
    ∃ b off, A = some ⟨b, off, none⟩ ∧ b < B ∧ w.cell? ⟨b, off + i, none⟩ = some (str l[i]) := by
  obtain ⟨b, off, hA, hb, hc⟩ := h.at_ stL_len hi
  refine ⟨b, off, hA, hb, ?_⟩
  have := hc 0 _ (by omega) rfl
  rwa [Nat.mul_one, Nat.add_zero] at this
theorem send_one {acc : List Pt} {g : Nat} {p : Pt} (hk : p.kind = 1) (ht : 0 ≤ p.txn) (hu : user p.frm ≠ none) (hb : p.body.length ≤ 20) (hh : hadR acc p = false) (hl : acc.length - g < 10) :
    gotB ⟨acc, g, false⟩ p = (⟨0, ((acc.length + 1 : Nat) : Int), []⟩, ⟨acc ++ [p], g, false⟩) := by
  have hx : execB ⟨acc, g, false⟩ p = ([], 0, ⟨acc ++ [p], g, false⟩) := by
    unfold execB
    rw [if_pos hk]
    unfold sendR
    rw [if_neg (by omega), if_neg hu, if_neg (by omega), if_neg (by simp [hh]), if_neg (by simp), if_neg (by simp only; omega)]
  unfold gotB
  rw [hx, if_pos rfl]
  simp
theorem fetch_zero (acc : List Pt) : gotB ⟨acc, 0, false⟩ ptF = (⟨0, (acc.length : Int), mlF 0 acc⟩, ⟨acc, 0, false⟩) := by
  have hx : execB ⟨acc, 0, false⟩ ptF = (mlF 0 acc, 0, ⟨acc, 0, false⟩) := by
    unfold execB
    unfold fetchR
    simp [ptF, Bs.wait]
  unfold gotB
  rw [hx, if_pos rfl]
theorem hadR_false {acc : List Pt} {p : Pt} (h : ∀ q ∈ acc, q.txn ≠ p.txn) : hadR acc p = false := by
  unfold hadR
  rw [List.any_eq_false]
  intro q hq
  simp [h q hq]
/-- The posts of a list of numbers and texts. -/
def sP (x : Nat × List UInt8) : Pt := ⟨1, [64, 97, 58, 120], (x.1 : Int), x.2, 0⟩
theorem sP_user : user [64, 97, 58, 120] ≠ none := by
  have : user [64, 97, 58, 120] = some ([97], [120]) := by decide +kernel
  rw [this]; simp
theorem send_all : ∀ (S : List (Nat × List UInt8)) (acc : List Pt), (∀ x ∈ S, x.2.length ≤ 20) → (S.map (·.1)).Nodup → (∀ x ∈ S, ∀ q ∈ acc, q.txn ≠ (x.1 : Int)) → acc.length + S.length ≤ 10 → (gotsB ⟨acc, 0, false⟩ (S.map sP)).2 = ⟨acc ++ S.map sP, 0, false⟩
  | [], acc, _, _, _, _ => by simp [gotsB]
  | x :: S, acc, h1, h2, h3, h4 => by
    simp only [List.map_cons, gotsB, List.length_cons] at *
    rw [List.nodup_cons] at h2
    have hx := send_one (acc := acc) (g := 0) (p := sP x) rfl (by simp [sP]) sP_user (h1 x (by simp)) (hadR_false (h3 x (by simp))) (by omega)
    rw [hx]
    simp only
    rw [send_all S (acc ++ [sP x]) (fun y hy => h1 y (by simp [hy])) h2.2 (fun y hy q hq => ?_) (by simp; omega)]
    · simp
    · rcases List.mem_append.1 hq with hq | hq
      · exact h3 y (by simp [hy]) q hq
      · have e : q = sP x := by simpa using hq
        subst e
        intro e2
        have e3 : x.1 = y.1 := by simp only [sP] at e2; omega
        exact h2.1 (by rw [e3]; exact List.mem_map.2 ⟨y, hy, rfl⟩)
theorem mail_R (S : List (Nat × List UInt8)) (h1 : ∀ x ∈ S, x.2.length ≤ 20) (h2 : (S.map (·.1)).Nodup) (h3 : S.length ≤ 10) :
    (gotsB bs0 (S.map sP ++ [ptF])).1[S.length]? = some ⟨0, (S.length : Int), mlF 0 (S.map sP)⟩ := by
  have h := send_all S [] h1 h2 (by simp) (by simpa using h3)
  rw [gotsB_app]
  simp only
  rw [List.getElem?_append_right (by rw [gotsB_len]; simp), gotsB_len, List.length_map, Nat.sub_self]
  rw [show bs0 = ⟨[], 0, false⟩ from rfl, h, List.nil_append]
  simp only [gotsB, fetch_zero]
  simp
theorem pt_twoX : playB [⟨1, [64, 97, 58, 120], 0, [120], 0⟩, ptF] = ([⟨0, 1, []⟩, ⟨0, 1, [⟨1, [64, 97, 58, 120], [120]⟩]⟩], 0) := by
  have h1 := send_one (acc := []) (g := 0) (p := ⟨1, [64, 97, 58, 120], 0, [120], 0⟩) rfl (by simp) sP_user (by simp) rfl (by simp)
  unfold playB
  rw [if_neg (by simp)]
  simp only [gotsB, show bs0 = ⟨[], 0, false⟩ from rfl, h1, List.nil_append, fetch_zero]
  rfl
end Go.Proofs.Ytmlgaedhfannmaa
