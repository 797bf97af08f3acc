/- ref.BaseText: what the call returns. -/
import Derived.Test.YtbdbcffnjibjoaaGreatDoorBaseEnc
import Derived.BigQuiet
namespace Go.Proofs.YtbdbcffnjibjoaaGreatDoor
set_option linter.unusedVariables false
set_option linter.unusedSimpArgs false
set_option maxRecDepth 100000
open Go.RowKit

/-- The first j bytes as a number, nought for each that lacks. -/
def acc (r : List UInt8) : Nat → Nat
  | 0 => 0
  | j + 1 => acc r j * 256 + (r.getD j 0).toNat
theorem acc_lt (r : List UInt8) : ∀ j, acc r j < 256 ^ j
  | 0 => by simp [acc]
  | j + 1 => by
    have h := acc_lt r j
    have hb := (r.getD j 0).toNat_lt
    simp only [acc, Nat.pow_succ]
    omega
def four (r : List UInt8) : List Nat := [acc r 3 / 262144, acc r 3 / 4096 % 64, acc r 3 / 64 % 64, acc r 3 % 64]
theorem four_lt (r : List UInt8) : ∀ d ∈ four r, d < 64 := by
  have h := acc_lt r 3
  simp only [four, List.mem_cons, List.not_mem_nil, or_false]
  rintro d (rfl | rfl | rfl | rfl) <;> omega
theorem b64_chunk (r : List UInt8) (h : r ≠ []) : b64 r = (four r).take (min 3 r.length + 1) ++ b64 (r.drop 3) := by
  match r, h with
  | [a], _ =>
    have := a.toNat_lt
    simp [b64, four, acc]
    omega
  | [a, b], _ =>
    have := a.toNat_lt
    have := b.toNat_lt
    simp [b64, four, acc]
    omega
  | a :: b :: c :: r, _ =>
    have := a.toNat_lt
    have := b.toNat_lt
    have := c.toNat_lt
    have e : min 3 (a :: b :: c :: r).length + 1 = 4 := by simp
    rw [e]
    simp [b64, four, acc]
    omega

theorem ext_digit (d : Nat) (h : d < 64) : digits64.extract d (d + 1) = ⟨[dgt d].toArray⟩ := by
  have : ∀ d : Fin 64, digits64.extract d.val (d.val + 1) = ⟨[dgt d.val].toArray⟩ := by decide +kernel
  exact this ⟨d, h⟩
theorem run_slice_digit {P : Program} (w : World) (t : TypeId) (k k' : IntKind) (d : Nat) (j : Int) (h : P.underlying t = some .string) (hd : d < 64) (hj : j = (d : Int) + 1) :
    (Instr.slice t (.string digits64) (some (.int k d)) (some (.int k' j)) none).run P w = .ok (str [dgt d]) w := by
  subst hj
  have hs : (digits64.size : Int) = 64 := by rw [digits64_size]; rfl
  rw [run_slice_string_if w t digits64 k k' d _ h, if_pos (by rw [hs]; omega), if_pos (by omega)]
  rw [show ((d : Int).toNat) = d from by omega, show ((d : Int) + 1).toNat = d + 1 from by omega, ext_digit d hd]
  rfl
attribute [local go_sem high] fold_digits run_index_digits

def RtOut (w : World) (l : List UInt8) (gk : Nat) (out i : Value) (wr : World) : Prop :=
  ∃ (k : Nat) (ts : List Nat) (o : List UInt8), i = .int .i64 k ∧ k % 3 = 0 ∧ k ≤ l.length + 2 ∧ gk = l.length + 3 - k ∧ out = str o ∧ o = ts.map dgt ∧ ts ++ b64 (l.drop k) = b64 l ∧ Below w.heap.size w wr
def RtAcc (r : List UInt8) (w : World) (gk : Nat) (n j : Value) (wr : World) : Prop :=
  ∃ jn : Nat, j = .int .i64 jn ∧ jn ≤ 3 ∧ gk = 3 - jn ∧ n = .int .i64 (acc r jn) ∧ wr = w
def RtDig (w : World) (g : Nat) (ts q : List Nat) (kk : Nat) (gk : Nat) (out j : Value) (wr : World) : Prop :=
  ∃ (jn : Nat) (o : List UInt8), j = .int .i64 jn ∧ jn ≤ kk + 1 ∧ gk = kk + 1 - jn ∧ out = str o ∧ o = (ts ++ q.take jn).map dgt ∧ Below w.heap.size w wr ∧ ∀ i, i < 4 → wr.cell? ⟨g, i, none⟩ = some (.int .i64 (q.getD i 0 : Nat))

theorem four_cells (W : World) (r : List UInt8) (t : TypeId) : ∀ i, i < 4 → (W.alloc (.cells #[.int .i64 ((acc r 3 : Int) / 262144), .int .i64 ((acc r 3 : Int) / 4096 % 64), .int .i64 ((acc r 3 : Int) / 64 % 64), .int .i64 ((acc r 3 : Int) % 64)] t)).cell? ⟨W.heap.size, i, none⟩ = some (.int .i64 ((four r).getD i 0 : Nat)) := by
  intro i hi
  rw [World.cell?_alloc_new]
  match i, hi with
  | 0, _ => simp [four]
  | 1, _ => simp [four]
  | 2, _ => simp [four]
  | 3, _ => simp [four]

set_option maxHeartbeats 1000000 in
theorem refText_small (A : Option Addr) (n c : Nat) (l : List UInt8) (w : World) (hr : Holds w w.heap.size 1 A n (l.map bv)) (hl : n ≤ 600) :
    Calls Tryz.prog 18 #[.slice A n c] w fun e w' => e = .returned (.tuple #[str (enc l), .int .i64 0]) ∧ Below w.heap.size w w' := by
  have HL := Lib.hid hr.len
  have hle : l.length ≤ n := by have := HL.out; omega
  have hge : n ≤ l.length := by have := HL.out; omega
  have hd0 : decide (600 < (n : Int)) = false := by simp; omega
  go_enter Tryz.func18, Tryz.ntmps18
  go_wp2
  go_loopg [4, 5] (l.length + 3) (RtOut w l)
  case atStart => exact ⟨0, [], [], rfl, rfl, by omega, by omega, rfl, rfl, by simp, Below.refl _ _⟩
  case round =>
    obtain ⟨k, ts, o, rfl, hk3, hk, hgk, rfl, ho, hts, hbl⟩ := hrel
    have Ho := Lib.hid ho
    clear ho
    have Hts := Lib.hid hts
    have Hk3 := Lib.hid hk3
    have Hgk := Lib.hid hgk
    clear hts hk3 hgk
    have hz := hbl.size
    by_cases hlt : k < n
    · have hrl : (l.drop k).length = l.length - k := by simp
      generalize hkk : min 3 (l.drop k).length = kk
      have hmin : (if (n : Int) - k < 3 then (n : Int) - k else 3) = (kk : Int) := by rw [← hkk, hrl]; split <;> omega
      have hkk3 : kk ≤ 3 := by omega
      have hkk1 : 1 ≤ kk := by omega
      have hkkn : k + kk ≤ n := by omega
      have hkkl : kk ≤ (l.drop k).length := by omega
      have hlkk : (l.drop k).length < 3 → (l.drop k).length ≤ kk := by omega
      have Hrl := Lib.hid hrl
      have Hkk := Lib.hid hkk
      have Hlkk := Lib.hid hlkk
      clear hrl hkk hlkk
      go_wp2
      go_loopg [6, 8] 3 (RtAcc (l.drop k) wr)
      case atStart => exact ⟨0, rfl, by omega, rfl, rfl, rfl⟩
      case round =>
        obtain ⟨j, rfl, hj, hgj, rfl, rfl⟩ := hrel
        have Hgj := Lib.hid hgj
        clear hgj
        have hac := acc_lt (l.drop k) j
        have hac1 : acc (l.drop k) j < 16777216 := Nat.lt_of_lt_of_le hac (show 256 ^ j ≤ 256 ^ 3 from Nat.pow_le_pow_right (by decide) hj)
        by_cases hj3 : j < 3
        · have hac2 : acc (l.drop k) j < 65536 := Nat.lt_of_lt_of_le hac (show 256 ^ j ≤ 256 ^ 2 from Nat.pow_le_pow_right (by decide) (by omega))
          by_cases hjk : j < kk
          · obtain ⟨b, off, hkl, rfl, hb, hc⟩ := hr.byte (k := k + j) (by omega)
            have hcr := (hbl.cell (p := ⟨b, off + (k + j), none⟩) hb).trans hc
            have hc8 := l[k + j].toNat_lt
            have Hbyte := Lib.hid (show ((l.drop k).getD j 0).toNat = l[k + j].toNat by simp [List.getD, List.getElem?_eq_getElem hkl])
            clear hc
            generalize l[k + j].toNat = cb at *
            go_wp2
            go_roundg (3 - (j + 1))
            case measure => have := Hgj.out; omega
            case rel => exact ⟨j + 1, by go_num, by omega, rfl, by simp only [acc, Hbyte.out]; go_num, rfl⟩
          · have Hbyte := Lib.hid (show ((l.drop k).getD j 0).toNat = 0 by
              have h1 : (l.drop k)[j]? = none := List.getElem?_eq_none (by have := Hkk.out; omega)
              simp only [List.getD, h1]; rfl)
            go_wp2
            go_roundg (3 - (j + 1))
            case measure => have := Hgj.out; omega
            case rel => exact ⟨j + 1, by go_num, by omega, rfl, by rw [show acc (l.drop k) (j + 1) = acc (l.drop k) j * 256 from by simp only [acc, Hbyte.out, Nat.add_zero]]; simp, rfl⟩
        · obtain rfl : j = 3 := by omega
          go_wp2
          go_loopg [4, 10] (kk + 1) (RtDig w wr.heap.size ts (four (l.drop k)) kk)
          case atStart =>
            exact ⟨0, o, rfl, by omega, rfl, rfl, by rw [Ho.out]; simp, hbl.alloc hz _, four_cells wr (l.drop k) 3⟩
          case round =>
            obtain ⟨jn, o2, rfl, hjn, hgj2, rfl, ho2, hbl2, hcs⟩ := hrel
            have Ho2 := Lib.hid ho2
            clear ho2
            have Hgj2 := Lib.hid hgj2
            clear hgj2
            by_cases hjk : jn < kk + 1
            · have hj4 : jn < 4 := by omega
              have hcj := hcs jn hj4
              have hq4 : jn < (four (l.drop k)).length := hj4
              have hd : (four (l.drop k)).getD jn 0 < 64 := by
                rw [List.getD, List.getElem?_eq_getElem hq4]
                exact four_lt _ _ (List.getElem_mem hq4)
              have Htk := Lib.hid (show (four (l.drop k)).take (jn + 1) = (four (l.drop k)).take jn ++ [(four (l.drop k)).getD jn 0] by
                rw [List.take_succ_eq_append_getElem hq4, List.getD, List.getElem?_eq_getElem hq4]; rfl)
              have hol : o2.length + 1 ≤ 1048576 := by
                have h1 := congrArg List.length Hts.out
                rw [List.length_append, b64_length, b64_length] at h1
                rw [Ho2.out, List.length_map, List.length_append, List.length_take]
                omega
              have Hcs := Lib.hid hcs
              clear hcs hq4
              generalize (four (l.drop k)).getD jn 0 = d at *
              have hsl := fun W => run_slice_digit (P := Tryz.prog) W 9 .i64 .i64 d ((d : Int) + 1) Tryz.underlying9 hd rfl
              have hadd := fun W => run_str_add (P := Tryz.prog) W 9 o2 [dgt d] hol
              have hwr : IntKind.i64.wrap ((d : Int) + 1) = (d : Int) + 1 := IntWalk.i64_in _ (by omega)
              have hj40 : (jn : Int) < 4 := by omega
              go_wp2_with fail
              go_quiet (fail)
              clear hsl hadd hwr
              go_wp2
              go_roundg (kk + 1 - (jn + 1))
              case measure => have := Hgj2.out; omega
              case rel => exact ⟨jn + 1, o2 ++ [dgt d], by go_num, by omega, rfl, rfl, by rw [Htk.out, Ho2.out]; simp, below_drewN hbl2 _, Hcs.out⟩
            · obtain rfl : jn = kk + 1 := by omega
              go_wp2
              go_roundg (l.length + 3 - (k + 3))
              case measure => have := Hgk.out; omega
              case rel =>
                refine ⟨k + 3, ts ++ (four (l.drop k)).take (kk + 1), o2, by go_num, by have := Hk3.out; omega, by omega, rfl, rfl, Ho2.out, ?_, hbl2⟩
                rw [← Hts.out, b64_chunk (l.drop k) (by intro h; have := Hrl.out; rw [h] at this; simp at this; omega), Hkk.out, List.drop_drop, List.append_assoc]
    · go_wp2
      go_ret2
      refine ⟨?_, hbl⟩
      have h1 := Hts.out
      rw [List.drop_eq_nil_of_le (by omega)] at h1
      simp only [b64, List.append_nil] at h1
      rw [Ho.out, h1]; rfl

theorem refText_big (A : Option Addr) (n c : Nat) (w : World) (hl : 600 < n) :
    Calls Tryz.prog 18 #[.slice A n c] w fun e w' => e = .returned (.tuple #[str [], .int .i64 1]) ∧ w = w' := by
  go_enter Tryz.func18, Tryz.ntmps18
  go_wp2
  go_ret2
  exact ⟨rfl, rfl⟩
end Go.Proofs.YtbdbcffnjibjoaaGreatDoor
