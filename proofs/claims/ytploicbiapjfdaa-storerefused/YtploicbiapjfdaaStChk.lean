/- The store: slices.Chunk, as an iterator whose body may do what it likes with its own cells. -/
import Derived.RangeFuncNested
import Derived.RangeFuncBound
import Derived.RangeFuncCalls
import Derived.RangeFuncLeaves
import Derived.Shelf.Abstract
import Derived.Shelf.RegionOpen
import Derived.OwnWalkIn
import Derived.TacticsInMore
import Derived.LoopNIn
import Derived.LoopIn
import Derived.Test.YtploicbiapjfdaaStM
import Derived.Test.YtploicbiapjfdaaRwApp
namespace Go.Proofs.Ytploicbiapjfdaa
set_option linter.unusedVariables false
set_option linter.unusedSimpArgs false
open Go.RowKit Go.Shelf
attribute [local go_sem] Oper.semAt_some
theorem cell_lt' {w : World} {a : Addr} {v : Value} (h : w.cell? a = some v) : a.block < w.heap.size := by
  obtain ⟨o, ho, _⟩ := cells_of_cell h
  exact (Array.getElem?_eq_some_iff.1 ho).1
/-- A part of m places: from, to. -/
abbrev Ck (m : Nat) := { p : Nat × Nat // p.1 ≤ p.2 ∧ p.2 ≤ m ∧ p.2 - p.1 ≤ 60 }
def ckAt (m k : Nat) : Ck m := ⟨(min (60 * k) m, min (60 * k + 60) m), by simp only; omega, by simp only; omega, by simp only; omega⟩
def ckL (m k : Nat) : List (Ck m) := (List.range k).map (ckAt m)
theorem ckL_succ (m k : Nat) : ckL m (k + 1) = ckL m k ++ [ckAt m k] := by simp [ckL, List.range_succ]
theorem ckL_len (m k : Nat) : (ckL m k).length = k := by simp [ckL]
/-- What yield is called with. -/
def ckV (A : Option Addr) {m : Nat} (x : Ck m) : Array Value := #[.slice (cutAt A x.1.2 x.1.1 2) (x.1.2 - x.1.1) (x.1.2 - x.1.1)]
/-- The two boxes lie as they lay. -/
def Kc (bs bn : Nat) (W W' : World) : Prop := W'.heap[bs]? = W.heap[bs]? ∧ W'.heap[bn]? = W.heap[bn]?
theorem run_cutM {P : Program} (w : World) (t e : TypeId) (i : TypeInfo) (ht : P.underlying t = some (.slice e)) (hi : P.info? e = some i) (A : Option Addr) (n c : Nat)
    (kl kh km : IntKind) (L H M : Int) (lo hg : Nat) (hL : L = lo) (hH : H = hg) (hM : M = hg) (h1 : lo ≤ hg) (h2 : hg ≤ c) :
    (Instr.slice t (.slice A n c) (some (.int kl L)) (some (.int kh H)) (some (.int km M))).run P w = .ok (.slice (cutAt A hg lo i.size) (hg - lo) (hg - lo)) w := by
  subst hL hH hM
  simp [Instr.slice, run_underlying ht, Instr.sliceBounds, run_sliceBound, sizeOf, typeInfo, hi, cutAt, h1, h2]
set_option maxRecDepth 100000 in
set_option maxHeartbeats 2000000 in
theorem chunk1_in (F : Fence) (n : Nat) (hF : F.fn 86) (hro : F.round = none) (hn : 1 ≤ n) (l bs bn : Nat) (A : Option Addr) (m c : Nat) (hm : m ≤ 1000) (hmc : m ≤ c) (J Jx : List (Ck m) → World → Prop)
    (hY : ∀ pre x W, J pre W → pre.length < m → YieldAt F (n - 1) Try.prog l (ckV A x) W fun e W' =>
      (e = .returned (.bool true) ∧ J (pre ++ [x]) W' ∧ Kc bs bn W W') ∨ (e = .returned (.bool false) ∧ Jx (pre ++ [x]) W'))
    (W : World) (hbs : W.cell? ⟨bs, 0, none⟩ = some (.slice A m c)) (hbn : W.cell? ⟨bn, 0, none⟩ = some (.int .i64 60)) (hJd : ∀ pre W, J pre W → J pre W.drew) (h0 : J [] W) :
    CallsIn F n Try.prog 86 #[.func (.yield l) #[] #[], .pointer (some ⟨bs, 0, none⟩), .pointer (some ⟨bn, 0, none⟩)] W fun e W' => (∃ v, e = .returned v) ∧
      ((∃ ys, (∃ k, m ≤ 60 * k ∧ ys = ckL m k) ∧ J ys W') ∨ (∃ pre, (∃ k, pre = ckL m k) ∧ Jx pre W')) := by
  refine callsIn_of_wp Try.func86 rfl hF ?_ hro
  simp only [Try.ntmps86, List.size_toArray, List.length_cons, List.length_nil, Nat.reduceAdd, Nat.reduceSub, Array.replicate_succ, Array.replicate_zero, List.push_toArray, List.append_toArray, List.nil_append, List.cons_append]
  gi_wp2
  obtain ⟨i0, hi0, hz0, hzs, hzb⟩ := info_parts info_row
  gi_loopw [4] (fun vi wr => ∃ k i : Nat, i = 60 * k ∧ i ≤ m + 59 ∧ vi = .int .i64 (i : Int) ∧ J (ckL m k) wr ∧ wr.cell? ⟨bs, 0, none⟩ = some (.slice A m c) ∧ wr.cell? ⟨bn, 0, none⟩ = some (.int .i64 60))
    (fun i _ => m - (intOf i).toNat)
  case atStart => exact ⟨0, 0, rfl, by omega, rfl, h0, hbs, hbn⟩
  case round =>
    obtain ⟨k, i, hik, hk, rfl, hJs, cbs, cbn⟩ := hrel
    have Hik := Lib.hid hik
    clear hbs hbn h0
    by_cases hlt : i < m
    · obtain ⟨fn, tmps, assign, body, hy, hR⟩ := hY _ (ckAt m k) wr.drew (hJd _ _ hJs) (by rw [ckL_len]; omega)
      have hlt' : (i : Int) < (m : Int) := by omega
      obtain ⟨d, hd⟩ : ∃ d, m - i = d := ⟨_, rfl⟩
      obtain ⟨e, he⟩ : ∃ e, min 60 d = e := ⟨_, rfl⟩
      have hif : (if (d : Int) < 60 then (d : Int) else 60) = (e : Int) := by split <;> omega
      have he60 : e ≤ 60 := by omega
      have hcut1 := fun W' => run_cut_l (P := Try.prog) W' 29 50 i0 Try.underlying29 hi0 A m c .i64 (i : Int) i rfl (by omega)
      have hcut3 := fun W' => run_cutM (P := Try.prog) W' 29 50 i0 Try.underlying29 hi0 A m c .i64 .i64 .i64 (i : Int) ((i : Int) + (e : Int)) ((i : Int) + (e : Int)) i (i + e) rfl (by omega) (by omega) (by omega) (by omega)
      simp only [hzs] at hcut1 hcut3
      rw [hd] at hcut1
      have hckv : ckV A (ckAt m k) = #[.slice (cutAt A (i + e) i 2) (i + e - i) (i + e - i)] := by
        unfold ckV ckAt
        simp only
        rw [← hik, show min i m = i by omega, show min (i + 60) m = i + e by omega]
      rw [hckv] at hy
      have c1 : wr.drew.cell? ⟨bs, 0, none⟩ = some (.slice A m c) := cbs
      have hle : i + e ≤ m := by omega
      have Hd := Lib.hid hd
      have He := Lib.hid he
      generalize cutAt A (i + e) i 2 = A3 at *
      generalize i + e - i = e3 at *
      generalize cutAt A c i 2 = A1 at *
      generalize c - i = c1' at *
      have hmx : Try.prog.follows .mixedOrders = true := by kernel_rfl
      clear hckv hik hd he
      gi_wp2
      gi_region_o
      all_goals
        gi_wp2
        refine hR.mono ?_
        rintro e W3 (⟨rfl, hJ3, hk3⟩ | ⟨rfl, hJx3⟩)
        · have d0 : W3.cell? ⟨bs, 0, none⟩ = some (.slice A m c) := (World.cell?_of_block (a := ⟨bs, 0, none⟩) hk3.1).trans cbs
          have d1 : W3.cell? ⟨bn, 0, none⟩ = some (.int .i64 60) := (World.cell?_of_block (a := ⟨bn, 0, none⟩) hk3.2).trans cbn
          clear cbs cbn c1
          gi_wp2
          go_roundw
          case rel => exact ⟨k + 1, i + 60, by have := Hik.out; omega, by omega, by go_num, by rw [ckL_succ]; exact hJ3, d0, d1⟩
          case measure => simp [intOf]; omega
        · gi_wp2
          refine bodyPost_ret (results_none rfl _ _ _) rfl ?_
          exact ⟨⟨_, rfl⟩, .inr ⟨_, ⟨k + 1, (ckL_succ _ _).symm⟩, hJx3⟩⟩
    · have hlt' : ¬ (i : Int) < (m : Int) := by omega
      gi_wp2
      go_end0
      exact ⟨⟨_, rfl⟩, .inl ⟨_, ⟨k, by have := Hik.out; omega, rfl⟩, hJs⟩⟩
set_option maxHeartbeats 1000000 in
theorem chunk_any (A : Option Addr) (m c : Nat) (w : World) :
    Calls Try.prog 63 #[.slice A m c, .int .i64 60] w fun e w' => e = .returned (.func (.func 86) #[] #[.pointer (some ⟨w.heap.size, 0, none⟩), .pointer (some ⟨w.heap.size + 1, 0, none⟩)]) ∧
      w' = (w.alloc (.cells #[.slice A m c] 29)).alloc (.cells #[.int .i64 60] 3) := by
  go_enter Try.func63, Try.ntmps63
  go_wp2
  go_ret
  exact ⟨rfl, rfl⟩
theorem chunk_stops (F : Fence) (n : Nat) (hF : F.fn 86) (hro : F.round = none) (hn : 1 ≤ n) (bs bn : Nat) (A : Option Addr) (m c : Nat) (hm : m ≤ 1000) (hmc : m ≤ c) (w : World)
    (hbs : w.cell? ⟨bs, 0, none⟩ = some (.slice A m c)) (hbn : w.cell? ⟨bn, 0, none⟩ = some (.int .i64 60)) :
    SeqStopsK F n Try.prog 86 #[.pointer (some ⟨bs, 0, none⟩), .pointer (some ⟨bn, 0, none⟩)] (fun x : Ck m => ckV A x) (Kc bs bn) (fun ys => ∃ k, m ≤ 60 * k ∧ ys = ckL m k) (fun pre => ∃ k, pre = ckL m k) m w :=
  fun l J Jx W hW hJ _ hY h0 =>
    chunk1_in F n hF hro hn l bs bn A m c hm hmc J Jx hY W ((hW.cell (p := ⟨bs, 0, none⟩) (cell_lt' hbs)).trans hbs) ((hW.cell (p := ⟨bn, 0, none⟩) (cell_lt' hbn)).trans hbn)
      (fun pre W1 h => hJ pre W1 W1.drew none h ⟨rfl, rfl, rfl, Nat.le_refl _, fun _ _ _ => rfl⟩ (fun r e => by cases e)) h0
end Go.Proofs.Ytploicbiapjfdaa
