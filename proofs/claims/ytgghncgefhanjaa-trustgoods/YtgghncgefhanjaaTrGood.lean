/- trust.Good and the document's own: what each call returns. -/
import Derived.Test.YtgghncgefhanjaaBunF
import Derived.Deep.DeepFit
namespace Go.Proofs.Ytgghncgefhanjaa
set_option linter.unusedVariables false
set_option linter.unusedSimpArgs false
open Go.RowKit
theorem tr_four : isPub 4 = true := by
  have := four_pub (k := 1) (by decide)
  rwa [show pw 4 1 = 4 by rw [pw_eq]] at this
/-- The bytes of a key. -/
def keyB (t : Nat) : List UInt8 := [UInt8.ofNat (t / 256), UInt8.ofNat (t % 256)]
def goodN (f t r s : Int) : Int := if isPub t = true then checkR f 2 (keyB t.toNat) r s else 2
theorem isPub_nat {t : Int} (h : isPub t = true) : ∃ n : Nat, t = n ∧ n < 7823 := by
  unfold isPub at h
  rw [Bool.and_eq_true, decide_eq_true_eq] at h
  exact ⟨t.toNat, by omega, by omega⟩
theorem tr_u8 (I : Int) (m : Nat) (h : I = m) (hm : m < 256) : Value.int .u8 I = bv (UInt8.ofNat m) := by
  subst h
  unfold bv
  rw [UInt8.toNat_ofNat', Nat.mod_eq_of_lt (by omega)]
theorem pub_check (y : Int) : (checkR y 0 [] 4 0 != 2) = isPub y := by
  unfold checkR
  have h4 := tr_four
  rw [h4, show okS 0 = true by decide]
  cases h : isPub y
  · rfl
  · simp only [Bool.true_and, if_true]
    rw [if_neg (by omega)]
    split <;> rfl
theorem trIsPub_any (y : Int) (w : World) : Calls Try.prog 22 #[.int .i64 y] w fun e w' => e = .returned (.bool (isPub y)) ∧ Below w.heap.size w w' := by
  have HP := Lib.hid (pub_check y)
  have HC := Lib.hid (sgCheck_any y none 0 0 [] 4 0 w Holds.empty)
  generalize checkR y 0 [] 4 0 = a at *
  go_enter Try.func22, Try.ntmps22
  go_wp2_with fail
  go_fit HC.out
  rintro e w1 ⟨rfl, hb1⟩
  go_wp2_with fail
  go_ret
  exact ⟨ret_bool (by rw [← HP.out]), hb1⟩
theorem key_holds (w : World) (t : Nat) (ht : t < 65536) : Holds (w.alloc (.cells #[.int .u8 ((t : Int) / 256), .int .u8 ((t : Int) % 256)] 5)) (w.heap.size + 1) 1 (some ⟨w.heap.size, 0, none⟩) 2 ((keyB t).map bv) := by
  refine ⟨rfl, fun _ => ⟨w.heap.size, 0, rfl, by omega, fun j u hu => ?_⟩⟩
  have hb := Blk.new w 5 #[.int .u8 ((t : Int) / 256), .int .u8 ((t : Int) % 256)]
  rw [Nat.zero_add, hb.cell j, tr_u8 _ (t / 256) (by omega) (by omega), tr_u8 _ (t % 256) (by omega) (by omega)]
  simpa [keyB] using hu
section
variable (f r s : Int)
set_option maxRecDepth 100000 in
theorem trustGood_any (t : Int) (w : World) : Calls Try.prog 8 #[.agg #[.int .i64 f, .int .i64 t, .int .i64 r, .int .i64 s]] w fun e w' => e = .returned (.int .i64 (goodN f t r s)) ∧ Below w.heap.size w w' := by
  have hb0 := Blk.new w 25 #[.int .i64 f, .int .i64 t, .int .i64 r, .int .i64 s]
  have hW := (Below.refl w.heap.size w).alloc (Nat.le_refl _) (.cells #[.int .i64 f, .int .i64 t, .int .i64 r, .int .i64 s] 25)
  go_enter Try.func8, Try.ntmps8
  go_wp2_with fail
  refine (trIsPub_any t _).mono ?_
  rintro e w1 ⟨rfl, hb1⟩
  have hx := hb0.below hb1 hb0.lt
  have hw1 := hW.trans (hb1.mono hW.size)
  cases hp : isPub t
  · have HR := Lib.hid (show goodN f t r s = 2 by unfold goodN; rw [hp]; rfl)
    clear hx hb0 hW
    go_wp2_with fail
    go_ret
    exact ⟨by rw [HR.out]; rfl, hw1⟩
  · obtain ⟨n, rfl, hn⟩ := isPub_nat hp
    have HR := Lib.hid (show goodN f (n : Int) r s = checkR f 2 (keyB n) r s by unfold goodN; rw [hp, if_pos rfl, Int.toNat_natCast])
    have k0 : w1.cell? ⟨w.heap.size, 0, none⟩ = some (.int .i64 f) := hx.cell 0
    have k1 : w1.cell? ⟨w.heap.size, 1, none⟩ = some (.int .i64 n) := hx.cell 1
    have k2 : w1.cell? ⟨w.heap.size, 2, none⟩ = some (.int .i64 r) := hx.cell 2
    have k3 : w1.cell? ⟨w.heap.size, 3, none⟩ = some (.int .i64 s) := hx.cell 3
    have hlt : w.heap.size < w1.heap.size := hx.lt
    have hh := key_holds w1 n (by omega)
    have HB := Lib.hid (hw1.alloc hw1.size (.cells #[.int .u8 ((n : Int) / 256), .int .u8 ((n : Int) % 256)] 5))
    have HC := Lib.hid (sgCheck_any f (some ⟨w1.heap.size, 0, none⟩) 2 2 (keyB n) r s (w1.alloc (.cells #[.int .u8 ((n : Int) / 256), .int .u8 ((n : Int) % 256)] 5)) (by simpa using hh))
    clear hp hx hb0 hW hb1 hh
    go_wp2_with fail
    go_fit HC.out
    rintro e w2 ⟨rfl, hb2⟩
    go_wp2_with fail
    go_ret
    exact ⟨by rw [HR.out]; rfl, HB.out.trans (hb2.mono HB.out.size)⟩
set_option maxRecDepth 100000 in
theorem refTrustGood_any (t : Int) (w : World) : Calls Try.prog 9 #[.agg #[.int .i64 f, .int .i64 t, .int .i64 r, .int .i64 s]] w fun e w' => e = .returned (.int .i64 (goodN f t r s)) ∧ Below w.heap.size w w' := by
  have hb0 := Blk.new w 25 #[.int .i64 f, .int .i64 t, .int .i64 r, .int .i64 s]
  have hW := (Below.refl w.heap.size w).alloc (Nat.le_refl _) (.cells #[.int .i64 f, .int .i64 t, .int .i64 r, .int .i64 s] 25)
  go_enter Try.func9, Try.ntmps9
  go_wp2_with fail
  refine (isKey_any t _).mono ?_
  rintro e w1 ⟨rfl, rfl⟩
  cases hp : isPub t
  · have HR := Lib.hid (show goodN f t r s = 2 by unfold goodN; rw [hp]; rfl)
    clear hb0
    go_wp2_with fail
    go_ret
    exact ⟨by rw [HR.out]; rfl, hW⟩
  · obtain ⟨n, rfl, hn⟩ := isPub_nat hp
    have HR := Lib.hid (show goodN f (n : Int) r s = checkR f 2 (keyB n) r s by unfold goodN; rw [hp, if_pos rfl, Int.toNat_natCast])
    generalize hWe : (w.alloc (.cells #[.int .i64 f, .int .i64 (n : Int), .int .i64 r, .int .i64 s] 25)) = w1 at *
    have k0 : w1.cell? ⟨w.heap.size, 0, none⟩ = some (.int .i64 f) := hb0.cell 0
    have k1 : w1.cell? ⟨w.heap.size, 1, none⟩ = some (.int .i64 n) := hb0.cell 1
    have k2 : w1.cell? ⟨w.heap.size, 2, none⟩ = some (.int .i64 r) := hb0.cell 2
    have k3 : w1.cell? ⟨w.heap.size, 3, none⟩ = some (.int .i64 s) := hb0.cell 3
    have hlt : w.heap.size < w1.heap.size := hb0.lt
    have hh := key_holds w1 n (by omega)
    have HB := Lib.hid (hW.alloc hW.size (.cells #[.int .u8 ((n : Int) / 256), .int .u8 ((n : Int) % 256)] 5))
    have HC := Lib.hid (refCheckS_any f (some ⟨w1.heap.size, 0, none⟩) 2 2 (keyB n) r s (w1.alloc (.cells #[.int .u8 ((n : Int) / 256), .int .u8 ((n : Int) % 256)] 5)) (by simpa using hh))
    have q1 : (n : Int).tdiv 256 = (n : Int) / 256 := Int.tdiv_eq_ediv_of_nonneg (by omega)
    have q2 : (n : Int).tmod 256 = (n : Int) % 256 := Int.tmod_eq_emod_of_nonneg (by omega)
    clear hp hb0 hW hh hWe
    go_wp2_with fail
    go_fit HC.out
    rintro e w2 ⟨rfl, hb2⟩
    go_wp2_with fail
    go_ret
    exact ⟨by rw [HR.out]; rfl, HB.out.trans (hb2.mono HB.out.size)⟩
end
end Go.Proofs.Ytgghncgefhanjaa
