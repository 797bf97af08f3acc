/- Sorted tables: sort.Search, and firstFit over it. -/
import Derived.Test.YtploicbiapjfdaaBunRA
import Derived.Shelf.SlSorted.Search
import Derived.StillTailTactics
namespace Go.Proofs.Ytploicbiapjfdaa
set_option linter.unusedVariables false
set_option linter.unusedSimpArgs false
open Go.RowKit Go.Lib Go.Sort
def srchRen : Go.Shelf.Ren := ⟨fun | 16 => 91 | n => n, fun | 3 => 3 | 4 => 4 | 35 => 88 | 38 => 136 | n => n, fun | n => n⟩
theorem srchLay : SlLaysO.n16 Try.prog srchRen := {
  mixed := by kernel_rfl
  f16 := Try.func91.trans (congrArg some (by kernel_rfl))
  t3 := Try.underlying3
  a3 := Try.isAgg3
  z3 := Try.sizeOf3
  v3 := Try.zeroValue3
  t4 := Try.underlying4
  a4 := Try.isAgg4
  z4 := Try.sizeOf4
  v4 := Try.zeroValue4
  t35 := Try.underlying88
  a35 := Try.isAgg88
  z35 := Try.sizeOf88
  v35 := Try.zeroValue88
  t38 := Try.underlying136
  a38 := Try.isAgg136
  z38 := Try.sizeOf136
  v38 := Try.zeroValue136 }

def keyAt (l : List Rw) (i : Nat) : List UInt8 := ((l[i]?).map (·.key)).getD []
theorem keyAt_eq {l : List Rw} {i : Nat} (h : i < l.length) : keyAt l i = l[i].key := by unfold keyAt; rw [List.getElem?_eq_getElem h]; rfl
theorem count_at (f : List UInt8 → Bool) : ∀ l : List Rw, (List.range l.length).countP (fun i => f (keyAt l i)) = l.countP (fun r => f r.key)
  | [] => rfl
  | r :: l => by
    rw [List.length_cons, List.range_succ_eq_map, List.countP_cons, List.countP_cons, List.countP_map, ← count_at f l]
    rfl
theorem mono_at {p : List UInt8 → Bool} (hp : upP p) {l : List Rw} (hs : srt l) : ∀ a b, a ≤ b → b < l.length → p (keyAt l a) = true → p (keyAt l b) = true := by
  intro a b hab hb h
  rcases Nat.lt_or_ge a b with hlt | hge
  · rw [keyAt_eq (by omega)] at h
    rw [keyAt_eq hb]
    exact hp _ _ (srt_at (by omega) hb hs hlt) h
  · obtain rfl : a = b := by omega
    exact h
/-- What a test of keys must do: a closure that reads only. -/
def Fits (w : World) (g : Nat) (cb : Array Value) (p : List UInt8 → Bool) : Prop :=
  (∀ args W, (callFunc g args).run Try.prog W = .ok (.enter g args) W) ∧
  ∀ (k : List UInt8) (W : World), Below w.heap.size w W → Calls Try.prog g (#[str k] ++ cb) W fun e w' => e = .returned (.bool (p k)) ∧ w' = W
set_option maxHeartbeats 1000000 in
set_option maxRecDepth 100000 in
theorem fit1_any (w : World) (g : Nat) (cb : Array Value) (p : List UInt8 → Bool) (hf : Fits w g cb p) (A : Option Addr) (n c B : Nat) (l : List Rw) (hl : RIn w B A n c l) (hB : B ≤ w.heap.size)
    (W : World) (hW : Below w.heap.size w W) (bl bf i : Nat) (hi : i < n) (hcl : W.cell? ⟨bl, 0, none⟩ = some (.slice A n c)) (hcf : W.cell? ⟨bf, 0, none⟩ = some (.func (.func g) #[] cb)) :
    Calls Try.prog 92 (#[.int .i64 i] ++ #[.pointer (some ⟨bf, 0, none⟩), .pointer (some ⟨bl, 0, none⟩)]) W fun e w' => e = .returned (.bool (p (keyAt l i))) ∧ ∃ q, w' = W.drewN q := by
  have hil : i < l.length := by rw [hl.1]; exact hi
  obtain ⟨b, off, rfl, hb, c0, _⟩ := (hl.below (hW.mono hB)).at_ hil
  rw [keyAt_eq hil]
  have HC := Lib.hid (hf.2 l[i].key W.drew hW.drew)
  have eg := hf.1
  generalize l[i].key = k at *
  have hii : (i : Int) < (n : Int) := by omega
  clear hf hl hW
  go_enter Try.func92, Try.ntmps92
  go_wp2_with fail
  go_still_tail 6, (by kernel_rfl)
  change wpList _ _ _ _ _ W.drew
  go_wp2_with (go_at_fn g; refine HC.out.mono ?_; rintro e w' ⟨rfl, rfl⟩)
  go_ret
  exact ⟨rfl, 1, rfl⟩
set_option maxHeartbeats 1000000 in
set_option maxRecDepth 100000 in
theorem firstFit_any (p : List UInt8 → Bool) (hp : upP p) (A : Option Addr) (n c B : Nat) (l : List Rw) (w : World) (hl : RIn w B A n c l) (hB : B ≤ w.heap.size) (hs : srt l) (hn : n ≤ 1048576) (g : Nat) (cb : Array Value) (hf : Fits w g cb p) :
    Calls Try.prog 72 #[.slice A n c, .func (.func g) #[] cb] w fun e w' => e = .returned (.int .i64 (l.countP (fun r => !p r.key) : Nat)) ∧ Below w.heap.size w w' := by
  obtain ⟨W0, hW0⟩ : ∃ W0, W0 = (w.alloc (.cells #[.slice A n c] 29)).alloc (.cells #[.func (.func g) #[] cb] 115) := ⟨_, rfl⟩
  have hsize : W0.heap.size = w.heap.size + 1 + 1 := by rw [hW0]; simp
  have ca : W0.cell? ⟨w.heap.size, 0, none⟩ = some (.slice A n c) := by rw [hW0]; exact cell_alloc_sl _ (cell_new_sl w _ _)
  have cx : W0.cell? ⟨w.heap.size + 1, 0, none⟩ = some (.func (.func g) #[] cb) := by
    rw [hW0]
    have := cell_new_sl (w.alloc (.cells #[.slice A n c] 29)) (.func (.func g) #[] cb) 115
    rwa [World.size_alloc] at this
  have hb0 : Below w.heap.size w W0 := by rw [hW0]; exact ((Below.refl _ _).alloc (Nat.le_refl _) _).alloc (by simp) _
  have eg : ∀ args W, (callFunc 92 args).run Try.prog W = .ok (.enter 92 args) W := enters_of Try.func92 (by kernel_rfl) rfl
  have hln := hl.1
  have hS : Calls Try.prog 91 #[.int .i64 n, .func (.func 92) #[] #[.pointer (some ⟨w.heap.size + 1, 0, none⟩), .pointer (some ⟨w.heap.size, 0, none⟩)]] W0 fun e w' => e = .returned (.int .i64 ((List.range n).countP (fun i => !p (keyAt l i)) : Nat)) ∧ ∃ q os, w' = grow (W0.drewN q) os :=
    Any.sort_Search srchLay 92 #[.pointer (some ⟨w.heap.size + 1, 0, none⟩), .pointer (some ⟨w.heap.size, 0, none⟩)] n (fun i => p (keyAt l i)) W0 eg (by omega)
      (fun m os i hi => (fit1_any w g cb p hf A n c B l hl hB (grow (W0.drewN m) os) (hb0.trans (below_grown_sl w.heap.size W0 m os (by omega))) w.heap.size (w.heap.size + 1) i hi
        (cell_grown (by simp [hsize]; omega) ca m os) (cell_grown (by simp [hsize]) cx m os)).mono fun _ _ ⟨he, q, hq⟩ => ⟨he, q, #[], by rw [hq, grow_empty]⟩)
      (fun a b hab hb h => mono_at hp hs a b hab (by omega) h)
  rw [← hln, count_at (fun k => !p k) l, hln] at hS
  have HS := Lib.hid hS
  have Hb0 := Lib.hid hb0
  generalize l.countP (fun r => !p r.key) = r at *
  have HW0 := Lib.hid hW0
  clear hS hb0 hf hl ca cx hs hp hln eg hW0
  go_enter Try.func72, Try.ntmps72
  go_wp2_with (go_at_call 91; rw [← HW0.out]; refine HS.out.mono ?_; rintro e w' ⟨rfl, q, os, rfl⟩)
  go_ret
  exact ⟨rfl, Hb0.out.trans (below_grown_sl w.heap.size W0 q os (by omega))⟩
end Go.Proofs.Ytploicbiapjfdaa
