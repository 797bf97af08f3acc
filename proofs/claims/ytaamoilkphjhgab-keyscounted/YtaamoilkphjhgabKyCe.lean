/- One-time keys: the cells of asks and of what they came to; asks that are drawn are good ones. -/
import Derived.Test.YtaamoilkphjhgabKyAsk
import Derived.Test.YtaamoilkphjhgabKyGn
import Derived.Test.YtaamoilkphjhgabKyCt
namespace Go.Proofs.Ytaamoilkphjhgab
set_option linter.unusedVariables false
set_option linter.unusedSimpArgs false
open Go.RowKit
theorem io_len : ∀ q, q < 7 → (io q).length ≤ 2 := by decide
theorem bo_len : ∀ r, r < 3 → (bo r).length ≤ 1 := by decide
theorem okA_ok {a : Ak} (h : OkA a) : AkOk a := by
  obtain ⟨hs, h⟩ := h
  have h1 : a.sort.length = 2 := by rcases hs with e | e <;> rw [e] <;> rfl
  rcases h with ⟨_, ⟨q, hq, e1⟩, ⟨r, hr, e2⟩, e3⟩ | ⟨_, e1, e2, e3, e4⟩ | ⟨_, e1, e2, e3⟩
  · have := io_len q hq
    have := bo_len r hr
    exact ⟨by omega, by rw [e1]; omega, by rw [e2]; omega, by omega, by omega⟩
  · exact ⟨by omega, by rw [e1]; simp, by rw [e2]; simp, by omega, by omega⟩
  · exact ⟨by omega, by rw [e1]; simp, by rw [e2]; simp, by omega, by omega⟩
theorem ask_at {w : World} {B n c i : Nat} {A : Option Addr} {l : List Ak} (h : LIn akL 5 w B A n c l) (hi : i < l.length) :
    ∃ b off, A = some ⟨b, off, none⟩ ∧ b < B ∧ w.cell? ⟨b, off + i * 5, none⟩ = some (.int .i64 l[i].kind) ∧ w.cell? ⟨b, off + i * 5 + 1, none⟩ = some (str l[i].sort) ∧ w.cell? ⟨b, off + i * 5 + 2, none⟩ = some (str l[i].id) ∧ w.cell? ⟨b, off + i * 5 + 3, none⟩ = some (str l[i].body) ∧ w.cell? ⟨b, off + i * 5 + 4, none⟩ = some (.int .i64 l[i].by_) := by
  obtain ⟨b, off, hA, hb, hc⟩ := h.at_ akL_len hi
  refine ⟨b, off, hA, hb, hc 0 _ (by omega) rfl, ?_, ?_, ?_, ?_⟩
  · have := hc 1 _ (by omega) rfl; rwa [← Nat.add_assoc] at this
  · have := hc 2 _ (by omega) rfl; rwa [← Nat.add_assoc] at this
  · have := hc 3 _ (by omega) rfl; rwa [← Nat.add_assoc] at this
  · have := hc 4 _ (by omega) rfl; rwa [← Nat.add_assoc] at this
theorem gvn_at {w : World} {B n c i : Nat} {A : Option Addr} {l : List Gv} (h : LIn gvL 6 w B A n c l) (hi : i < l.length) :
    ∃ b off, A = some ⟨b, off, none⟩ ∧ b < B ∧ w.cell? ⟨b, off + i * 6, none⟩ = some (.int .i64 l[i].code) ∧ w.cell? ⟨b, off + i * 6 + 2, none⟩ = some (str l[i].id) ∧ w.cell? ⟨b, off + i * 6 + 3, none⟩ = some (str l[i].body) ∧ w.cell? ⟨b, off + i * 6 + 4, none⟩ = some (.bool l[i].spare) ∧ w.cell? ⟨b, off + i * 6 + 5, none⟩ = some (.int .i64 l[i].many) ∧ w.cell? ⟨b, off + i * 6 + 1, none⟩ = some (str []) := by
  obtain ⟨b, off, hA, hb, hc⟩ := h.at_ gvL_len hi
  refine ⟨b, off, hA, hb, hc 0 _ (by omega) rfl, ?_, ?_, ?_, ?_, ?_⟩
  · have := hc 2 _ (by omega) rfl; rwa [← Nat.add_assoc] at this
  · have := hc 3 _ (by omega) rfl; rwa [← Nat.add_assoc] at this
  · have := hc 4 _ (by omega) rfl; rwa [← Nat.add_assoc] at this
  · have := hc 5 _ (by omega) rfl; rwa [← Nat.add_assoc] at this
  · have := hc 1 _ (by omega) rfl; rwa [← Nat.add_assoc] at this
theorem ask_at' {w : World} {B n c i b off : Nat} {l : List Ak} (h : LIn akL 5 w B (some ⟨b, off, none⟩) n c l) (hi : i < l.length) :
    w.cell? ⟨b, off + i * 5, none⟩ = some (.int .i64 l[i].kind) ∧ w.cell? ⟨b, off + i * 5 + 1, none⟩ = some (str l[i].sort) ∧ w.cell? ⟨b, off + i * 5 + 2, none⟩ = some (str l[i].id) ∧ w.cell? ⟨b, off + i * 5 + 3, none⟩ = some (str l[i].body) ∧ w.cell? ⟨b, off + i * 5 + 4, none⟩ = some (.int .i64 l[i].by_) := by
  obtain ⟨b', off', hA, _, hc⟩ := ask_at h hi
  injection hA with hA
  injection hA with h1 h2
  subst h1 h2
  exact hc
theorem gvn_at' {w : World} {B n c i b off : Nat} {l : List Gv} (h : LIn gvL 6 w B (some ⟨b, off, none⟩) n c l) (hi : i < l.length) :
    w.cell? ⟨b, off + i * 6, none⟩ = some (.int .i64 l[i].code) ∧ w.cell? ⟨b, off + i * 6 + 2, none⟩ = some (str l[i].id) ∧ w.cell? ⟨b, off + i * 6 + 3, none⟩ = some (str l[i].body) ∧ w.cell? ⟨b, off + i * 6 + 4, none⟩ = some (.bool l[i].spare) ∧ w.cell? ⟨b, off + i * 6 + 5, none⟩ = some (.int .i64 l[i].many) ∧ w.cell? ⟨b, off + i * 6 + 1, none⟩ = some (str []) := by
  obtain ⟨b', off', hA, _, hc⟩ := gvn_at h hi
  injection hA with hA
  injection hA with h1 h2
  subst h1 h2
  exact hc
end Go.Proofs.Ytaamoilkphjhgab
