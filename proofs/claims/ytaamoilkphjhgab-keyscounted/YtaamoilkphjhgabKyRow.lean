/- One-time keys: rows of names. -/
import Derived.Test.YtaamoilkphjhgabKyMem
import Derived.Test.YtaamoilkphjhgabRwApp
import Derived.Test.YtaamoilkphjhgabBunRA
namespace Go.Proofs.Ytaamoilkphjhgab
set_option linter.unusedVariables false
set_option linter.unusedSimpArgs false
open Go.RowKit
def rwN (n : Nm) : Rw := ⟨n.1, n.2⟩
def pcN (l : List Nm) : List Value := pcR (l.map rwN)
theorem pcN_len (l : List Nm) : (pcN l).length = l.length * 2 := by unfold pcN; rw [pcR_len, List.length_map]
theorem pcN_app (l m : List Nm) : pcN (l ++ m) = pcN l ++ pcN m := by unfold pcN; rw [List.map_append, pcR_app]
theorem pcN_one (l : List Nm) : ∀ u ∈ pcN l, u.oneCell' = true := pcR_one _
theorem info_name : (Try.prog.info? 71).map (fun i => (i.zero, i.size, i.bytes)) = some (some (.agg #[.string ⟨#[]⟩, .string ⟨#[]⟩]), 2, 32) := by kernel_rfl
/-- One name more behind a row of the call's own: its run. -/
theorem run_app_name (W : World) (base n : Nat) (v : Value) (l : List Nm) (x : Nm) (hown : W.ownsRow base 71 2 v n (pcN l)) (hn : n + 1 ≤ 1048576) (hb : base ≤ W.heap.size) :
    ∃ v' wf, (Builtin.append_ #[62, 62] 62 #[v, .slice (some ⟨W.heap.size, 0, none⟩) 1 1]).run Try.prog (W.alloc (.cells #[str x.1, str x.2] 71)) = .ok v' wf ∧
      wf.ownsRow base 71 2 v' (n + 1) (pcN (l ++ [x])) ∧ (W.alloc (.cells #[str x.1, str x.2] 71)).grownBy wf v.ownBlock := by
  obtain ⟨i0, hi0, hz0, hzs, hzb⟩ := info_parts info_name
  have hB := Blk.new W 71 #[str x.1, str x.2]
  have hh : Holds (W.alloc (.cells #[str x.1, str x.2] 71)) (W.heap.size + 1) 2 (some ⟨W.heap.size, 0, none⟩) 1 (rc (rwN x)) := by
    refine ⟨rfl, fun _ => ⟨W.heap.size, 0, rfl, by omega, fun j u hu => ?_⟩⟩
    rw [Nat.zero_add, hB.cell j]
    simpa [rc, rwN] using hu
  obtain ⟨v', wf, h1, h2, h3, _⟩ := run_app_all (P := Try.prog) (W.alloc (.cells #[str x.1, str x.2] 71)) 62 62 base 71 i0 _ 2 32 Try.underlying62 hi0 hz0 hzs hzb rfl (by decide) v n (pcN l) (hown.alloc _) (W.heap.size + 1) (some ⟨W.heap.size, 0, none⟩) 1 1 (rc (rwN x)) (fun h => by cases h) hh (rc_one (rwN x)) hn (by decide) (by simp; omega)
  exact ⟨v', wf, h1, by rw [pcN_app]; simpa [pcN, pcR] using h2, h3⟩
end Go.Proofs.Ytaamoilkphjhgab
