/- The statements' own helpers: SecretOf, cutBytes, signSure. -/
import Derived.Test.YtafgaknhdiipdaaSgS
import Derived.Test.YtafgaknhdiipdaaPicked
namespace Go.Proofs.Ytafgaknhdiipdaa
set_option linter.unusedVariables false
set_option linter.unusedSimpArgs false
open Go.RowKit
/-- The secret that a number stands for. -/
def secOf (x : Int) : Nat := 1 + (x % 3910).toNat
theorem secOf_lt (x : Int) : 1 ≤ secOf x ∧ secOf x < 3911 := by
  have h0 := Int.emod_nonneg x (show (3910 : Int) ≠ 0 by decide)
  have h1 := Int.emod_lt_of_pos x (show (0 : Int) < 3910 by decide)
  unfold secOf; omega
theorem secretOf_any (x : Int) (w : World) :
    Calls Try.prog 24 #[.int .i64 x] w fun e w' => e = .returned (.int .i64 (secOf x : Nat)) ∧ w = w' := by
  have h0 := Int.emod_nonneg x (show (3910 : Int) ≠ 0 by decide)
  have h1 := Int.emod_lt_of_pos x (show (0 : Int) < 3910 by decide)
  have H := Lib.hid (show 1 + x % 3910 = ((secOf x : Nat) : Int) by unfold secOf; omega)
  go_enter Try.func24, Try.ntmps24
  go_wp2_with fail
  refine (picked_any x 3910 _ (by decide) (by decide)).mono ?_
  rintro e w1 ⟨rfl, rfl⟩
  generalize x % 3910 = y at *
  go_wp2
  go_ret
  exact ⟨ret_i64 H.out, rfl⟩
theorem info_u8 : (Try.prog.info? 5).map (fun i => (i.zero, i.size, i.bytes)) = some (some (.int .u8 0), 1, 1) := by kernel_rfl
theorem info_u8' : ∃ i0, Try.prog.info? 5 = some i0 ∧ i0.zero = some (.int .u8 0) ∧ i0.size = 1 ∧ i0.bytes = 1 := by
  have h := info_u8
  cases hi : Try.prog.info? 5 with
  | none => rw [hi] at h; cases h
  | some i =>
    rw [hi] at h
    simp only [Option.map_some, Option.some.injEq, Prod.mk.injEq] at h
    exact ⟨i, rfl, h.1, h.2.1, h.2.2⟩
theorem own_cap {w : World} {base e size n c : Nat} {A : Option Addr} {xs : List Value} (h : w.ownsRow base e size (.slice A n c) n xs) : n ≤ c := by
  rcases h.2 with ⟨h1, h2⟩ | ⟨g, cap, cur, hv, _, _, hnc, _⟩
  · injection h1; omega
  · injection hv; omega
/-- A copy of the call's own that holds the bytes x. -/
def CutOf (w w' : World) (x : List UInt8) (v : Value) : Prop :=
  ∃ A c, v = .slice A x.length c ∧ Holds w' w'.heap.size 1 A x.length (x.map bv) ∧ x.length ≤ c ∧ (A = none → c = 0) ∧ w'.ownsRow w.heap.size 5 1 (.slice A x.length c) x.length (x.map bv) ∧ Below w.heap.size w w'
set_option maxHeartbeats 1000000 in
theorem cut_any (A : Option Addr) (n c : Nat) (l : List UInt8) (w : World) (hh : Holds w w.heap.size 1 A n (l.map bv)) (hnc : n ≤ c) (hA : A = none → c = 0) :
    Calls Try.prog 25 #[.slice A n c] w fun e w' => ∃ v, e = .returned v ∧ CutOf w w' (l.take 200) v := by
  obtain ⟨i0, hi0, hz0, hz1, hz2⟩ := info_u8'
  obtain ⟨m, hm'⟩ : ∃ m : Nat, m = min n 200 := ⟨_, rfl⟩
  have hmin : (if (200 : Int) < (n : Int) then (200 : Int) else (n : Int)) = (m : Int) := by split <;> omega
  have hle : m ≤ 200 := by omega
  have hln : m ≤ n := by omega
  have hx := hh.first hln
  have hL := hh.len
  have ht : l.take m = l.take 200 := by rw [hm', ← hL, ← List.take_take]; exact List.take_of_length_le (by rw [List.length_take]; omega)
  have hxl : (l.take m).length = m := by rw [List.length_take]; omega
  rw [ht] at hx hxl
  generalize l.take 200 = x at *
  have Hxl := Lib.hid hxl
  clear hxl hL hh ht hm'
  have hs0 := fun W => run_cut_h (P := Try.prog) W 26 5 i0 Try.underlying26 hi0 A n c .i64 (m : Int) m rfl (by omega)
  go_enter Try.func25, Try.ntmps25
  go_wp2_with (at_builtin
               refine wpList_append_nil w rfl _ _ rfl 5 i0 _ 1 1 Try.underlying26 hi0 hz0 hz1 hz2 rfl (by decide) w.heap.size A m c (x.map bv) hx (by rfl) hA (bv_one x) (by omega) (by decide) ?_
               intro B0 d0 w1 hown1 hh1 hB0 hb1)
  go_ret
  have hlen := Hxl.out
  subst hlen
  exact ⟨_, rfl, B0, d0, rfl, hh1, own_cap hown1, hB0, hown1, hb1⟩
theorem pub_four : isPub 4 = true := by
  have := four_pub (k := 1) (by decide)
  rwa [show pw 4 1 = 4 by rw [pw_eq]] at this
theorem sure_check : checkR 4 0 [] 4 0 = 9 := by
  unfold checkR
  rw [pub_four, show okS 0 = true from rfl, Bool.true_and, Bool.true_and, if_pos rfl, if_neg (by decide), if_neg]
  rw [show (0 : Int).toNat = 0 from rfl, show (4 : Int).toNat = 4 from rfl, pw_zero, show hsh 4 [] = 4 from rfl, pw_eq]
  decide
theorem signSure_any (w : World) :
    Calls Try.prog 26 #[] w fun e w' => e = .returned (.bool true) ∧ Below w.heap.size w w' := by
  have hp : publicR 1 = (4, 0) := by
    unfold publicR
    rw [show isSec 1 = true from rfl, if_pos rfl, show (1 : Int).toNat = 1 from rfl, show pw 4 1 = 4 by rw [pw_eq]]
  have Hp := Lib.hid hp
  clear hp
  go_enter Try.func26, Try.ntmps26
  go_wp2_with fail
  refine (public_any 1 _).mono ?_
  rintro e w1 ⟨rfl, rfl⟩
  rw [Hp.out]
  simp only [intsV]
  go_wp2_with fail
  refine (check_any 4 none 0 0 [] 4 0 _ Holds.empty).mono ?_
  rintro e w1 ⟨rfl, hb1⟩
  rw [sure_check]
  go_wp2_with fail
  go_ret
  exact ⟨rfl, hb1⟩
end Go.Proofs.Ytafgaknhdiipdaa
