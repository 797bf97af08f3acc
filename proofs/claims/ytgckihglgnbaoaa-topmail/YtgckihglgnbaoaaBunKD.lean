/- Joined texts: KyGn, KyCe. -/
import Derived.Test.YtgckihglgnbaoaaKyPl
import Derived.BigQuiet
import Derived.Test.YtgckihglgnbaoaaKyAsk
import Derived.Test.YtgckihglgnbaoaaBunKA
/- One-time keys: given: what the statements ask of Play. -/
namespace Go.Proofs.Ytgckihglgnbaoaa
set_option linter.unusedVariables false
set_option linter.unusedSimpArgs false
open Go.RowKit
def lit2 : List Ak := [⟨1, [101, 100], [65], [120], 0⟩, ⟨3, [101, 100], [], [], 1⟩]
theorem lit2_R : (asksR ks0 lit2).1 = [⟨0, [], [], false, 1⟩, ⟨0, [65], [120], false, 0⟩] := by kernel_rfl
theorem lit2_ok : ∀ a ∈ lit2, AkOk a := by
  intro a ha
  simp [lit2] at ha
  rcases ha with rfl | rfl <;> exact ⟨by simp, by simp, by simp, by simp, by simp⟩
/-- A copy of a list of asks: its run. -/
theorem asks_copy {W : World} {B n c : Nat} {A : Option Addr} {l : List Ak} (h : LIn akL 5 W B A n c l) (hn : n ≤ 1048576) :
    ∃ v' wf, (Builtin.append_ #[22, 22] 22 #[.slice none 0 0, .slice A n c]).run Try.prog W = .ok v' wf ∧
      wf.ownsRow W.heap.size 55 5 v' l.length (pcK akL l) ∧ Below W.heap.size W wf := by
  obtain ⟨i0, hi0, hz0, hzs, hzb⟩ := info_parts info_ask
  obtain ⟨h1, h2, h3, h4⟩ := h
  obtain ⟨v', wf, k1, k2, k3, k4⟩ := run_app_all (P := Try.prog) W 22 22 W.heap.size 55 i0 _ 5 64 Try.underlying22 hi0 hz0 hzs hzb rfl (by decide) (.slice none 0 0) 0 [] (World.ownsRow_nil _ _ _ _) B A n c _ h3 h4 (pcK_one akL_one l) (by omega) (by decide) (Nat.le_refl _)
  exact ⟨v', wf, k1, by rw [h1]; simpa using k2, below_own (Below.refl W.heap.size W) k3 (World.ownsRow_nil W W.heap.size 55 5) (Nat.le_refl _) (Nat.le_refl _)⟩
/-- Few asks in a block that has just been laid. -/
theorem asks_lit (W : World) (l : List Ak) (k : Nat) (hk : l.length = k) (ca : Array Value) (hca : ca = (pcK akL l).toArray) :
    LIn akL 5 (W.alloc (.cells ca 55)) (W.alloc (.cells ca 55)).heap.size (some ⟨W.heap.size, 0, none⟩) k k l := by
  subst hca
  refine ⟨hk, Nat.le_refl _, fun h => (by cases h), ⟨by rw [pcK_len akL_len, hk], fun _ => ⟨W.heap.size, 0, rfl, by simp, fun j u hu => ?_⟩⟩⟩
  rw [Nat.zero_add, (Blk.new W 55 _).cell j]
  simpa using hu
def GvnPost (l : List Ak) (w : World) (e : Ending) (w' : World) : Prop :=
  ∃ (A : Option Addr) (c : Nat), e = .returned (.tuple #[.slice A l.length c, .bool true]) ∧ LIn gvL 6 w' w'.heap.size A l.length c (asksR ks0 l).1 ∧ Below w.heap.size w w'
end Go.Proofs.Ytgckihglgnbaoaa

/- One-time keys: the cells of asks and of what they came to; asks that are drawn are good ones. -/
namespace Go.Proofs.Ytgckihglgnbaoaa
set_option linter.unusedVariables false
set_option linter.unusedSimpArgs false
open Go.RowKit
theorem io_len : ∀ q, q < 7 → (io q).length ≤ 2 := by decide
theorem bo_len : ∀ r, r < 3 → (bo r).length ≤ 1 := by decide
theorem okA_ok {a : Ak} (h : OkA a) : AkOk a := by
  obtain ⟨hs, h⟩ := h
  have h1 : a.sort.length = 2 := by rcases hs with e | e <;> rw [e] <;> rfl
  rcases h with ⟨_, ⟨q, hq, e1⟩, ⟨r, hr, e2⟩, e3⟩ | ⟨_, e1, e2, e3, e4⟩ | ⟨_, e1, e2, e3⟩
  · have := io_len q hq
    have := bo_len r hr
    exact ⟨by omega, by rw [e1]; omega, by rw [e2]; omega, by omega, by omega⟩
  · exact ⟨by omega, by rw [e1]; simp, by rw [e2]; simp, by omega, by omega⟩
  · exact ⟨by omega, by rw [e1]; simp, by rw [e2]; simp, by omega, by omega⟩
theorem ask_at {w : World} {B n c i : Nat} {A : Option Addr} {l : List Ak} (h : LIn akL 5 w B A n c l) (hi : i < l.length) :
    ∃ b off, A = some ⟨b, off, none⟩ ∧ b < B ∧ w.cell? ⟨b, off + i * 5, none⟩ = some (.int .i64 l[i].kind) ∧ w.cell? ⟨b, off + i * 5 + 1, none⟩ = some (str l[i].sort) ∧ w.cell? ⟨b, off + i * 5 + 2, none⟩ = some (str l[i].id) ∧ w.cell? ⟨b, off + i * 5 + 3, none⟩ = some (str l[i].body) ∧ w.cell? ⟨b, off + i * 5 + 4, none⟩ = some (.int .i64 l[i].by_) := by
  obtain ⟨b, off, hA, hb, hc⟩ := h.at_ akL_len hi
  refine ⟨b, off, hA, hb, hc 0 _ (by omega) rfl, ?_, ?_, ?_, ?_⟩
  · have := hc 1 _ (by omega) rfl; rwa [← Nat.add_assoc] at this
  · have := hc 2 _ (by omega) rfl; rwa [← Nat.add_assoc] at this
  · have := hc 3 _ (by omega) rfl; rwa [← Nat.add_assoc] at this
  · have := hc 4 _ (by omega) rfl; rwa [← Nat.add_assoc] at this
theorem gvn_at {w : World} {B n c i : Nat} {A : Option Addr} {l : List Gv} (h : LIn gvL 6 w B A n c l) (hi : i < l.length) :
    ∃ b off, A = some ⟨b, off, none⟩ ∧ b < B ∧ w.cell? ⟨b, off + i * 6, none⟩ = some (.int .i64 l[i].code) ∧ w.cell? ⟨b, off + i * 6 + 2, none⟩ = some (str l[i].id) ∧ w.cell? ⟨b, off + i * 6 + 3, none⟩ = some (str l[i].body) ∧ w.cell? ⟨b, off + i * 6 + 4, none⟩ = some (.bool l[i].spare) ∧ w.cell? ⟨b, off + i * 6 + 5, none⟩ = some (.int .i64 l[i].many) ∧ w.cell? ⟨b, off + i * 6 + 1, none⟩ = some (str []) := by
  obtain ⟨b, off, hA, hb, hc⟩ := h.at_ gvL_len hi
  refine ⟨b, off, hA, hb, hc 0 _ (by omega) rfl, ?_, ?_, ?_, ?_, ?_⟩
  · have := hc 2 _ (by omega) rfl; rwa [← Nat.add_assoc] at this
  · have := hc 3 _ (by omega) rfl; rwa [← Nat.add_assoc] at this
  · have := hc 4 _ (by omega) rfl; rwa [← Nat.add_assoc] at this
  · have := hc 5 _ (by omega) rfl; rwa [← Nat.add_assoc] at this
  · have := hc 1 _ (by omega) rfl; rwa [← Nat.add_assoc] at this
theorem ask_at' {w : World} {B n c i b off : Nat} {l : List Ak} (h : LIn akL 5 w B (some ⟨b, off, none⟩) n c l) (hi : i < l.length) :
    w.cell? ⟨b, off + i * 5, none⟩ = some (.int .i64 l[i].kind) ∧ w.cell? ⟨b, off + i * 5 + 1, none⟩ = some (str l[i].sort) ∧ w.cell? ⟨b, off + i * 5 + 2, none⟩ = some (str l[i].id) ∧ w.cell? ⟨b, off + i * 5 + 3, none⟩ = some (str l[i].body) ∧ w.cell? ⟨b, off + i * 5 + 4, none⟩ = some (.int .i64 l[i].by_) := by
  obtain ⟨b', off', hA, _, hc⟩ := ask_at h hi
  injection hA with hA
  injection hA with h1 h2
  subst h1 h2
  exact hc
theorem gvn_at' {w : World} {B n c i b off : Nat} {l : List Gv} (h : LIn gvL 6 w B (some ⟨b, off, none⟩) n c l) (hi : i < l.length) :
    w.cell? ⟨b, off + i * 6, none⟩ = some (.int .i64 l[i].code) ∧ w.cell? ⟨b, off + i * 6 + 2, none⟩ = some (str l[i].id) ∧ w.cell? ⟨b, off + i * 6 + 3, none⟩ = some (str l[i].body) ∧ w.cell? ⟨b, off + i * 6 + 4, none⟩ = some (.bool l[i].spare) ∧ w.cell? ⟨b, off + i * 6 + 5, none⟩ = some (.int .i64 l[i].many) ∧ w.cell? ⟨b, off + i * 6 + 1, none⟩ = some (str []) := by
  obtain ⟨b', off', hA, _, hc⟩ := gvn_at h hi
  injection hA with hA
  injection hA with h1 h2
  subst h1 h2
  exact hc
end Go.Proofs.Ytgckihglgnbaoaa
