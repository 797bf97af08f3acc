/- Joined texts: JRefT, JRefF, JRefX, JRefC. -/
import Derived.Test.YtbdbcffnjibjoaaGreatDoorBunA
import Derived.Test.YtbdbcffnjibjoaaGreatDoorRows
import Derived.Laws.Concat
import Derived.WalkSmall
import Derived.Outline
import Derived.Test.YtbdbcffnjibjoaaGreatDoorJCheck
import Derived.Test.YtbdbcffnjibjoaaGreatDoorJText
import Derived.Test.YtbdbcffnjibjoaaGreatDoorBunB
/- The document's own numText and jsonQuoted: what each call returns. -/
namespace Go.Proofs.YtbdbcffnjibjoaaGreatDoor
set_option linter.unusedVariables false
set_option linter.unusedSimpArgs false
open Go.RowKit

theorem run_str_addL {P : Program} (t : TypeId) (a b : List UInt8) (h : a.length + b.length ≤ 9223372036854775807) : ∀ W, (binOp .add t (str a) (str b)).run P W = .ok (str (a ++ b)) W := fun W => by
  simp only [str, binOp_string_add]
  rw [run_string_add_sum W _ _ (by show a.length + b.length ≤ _; exact h), ByteArray.mk_append_mk]
/-- The string of bytes that have just been laid in a block. -/
theorem run_conv_new {P : Program} (w : World) (src dst e : TypeId) (hs : P.underlying src = some (.slice e)) (he : P.underlying e = some (.int .u8)) (hd : P.underlying dst = some .string) (l : List UInt8) (t : TypeId) (n : Nat) (hn : n = l.length) (cs : Array Value) (hcs : cs = (l.map bv).toArray) :
    (convert src dst (.slice (some ⟨w.heap.size, 0, none⟩) n n)).run P (w.alloc (.cells cs t)) = .ok (str l) (w.alloc (.cells cs t)) := by
  subst hn hcs
  refine run_convert_bytes (B := w.heap.size + 1) src dst e hs he hd ⟨by simp, fun _ => ⟨w.heap.size, 0, rfl, by omega, fun j u hu => ?_⟩⟩ (fun h => by cases h)
  rw [Nat.zero_add, (Blk.new w t _).cell j]
  simpa using hu

theorem itoa_small (n : Nat) (h : n < 10) : Lib.itoa (n : Int) = [UInt8.ofNat (48 + n)] := by
  unfold Lib.itoa; rw [if_neg (by omega)]
  simp [Lib.decDigits, h]
theorem itoa_big (n : Nat) (h : ¬ n < 10) : Lib.itoa (n : Int) = Lib.itoa ((n / 10 : Nat) : Int) ++ Lib.itoa ((n % 10 : Nat) : Int) := by
  rw [itoa_small (n % 10) (by omega)]
  unfold Lib.itoa
  rw [if_neg (by omega), if_neg (by omega)]
  simp only [Int.toNat_natCast]
  rw [Lib.decDigits, dif_neg h]
theorem itoa_minus (n : Nat) (h : 0 < n) : Lib.itoa (-(n : Int)) = [45] ++ Lib.itoa (n : Int) := by
  unfold Lib.itoa
  rw [if_pos (by omega), if_neg (by omega)]
  simp
theorem itoa_len20 (n : Int) (h0 : -9007199254740992 ≤ n) (h1 : n ≤ 9007199254740992) : (Lib.itoa n).length ≤ 21 := Lib.itoa_length_le n (by omega) (by omega)

attribute [local go_sem high] str_mk
set_option maxRecDepth 100000 in
set_option maxHeartbeats 1000000 in
theorem numText_nat : ∀ (f n : Nat) (w : World), n ≤ 9007199254740992 → n ≤ f →
    Calls Tryz.prog 65 #[.int .i64 (n : Int)] w fun e w' => e = .returned (str (Lib.itoa n)) ∧ Below w.heap.size w w' := by
  intro f
  induction f with
  | zero =>
    intro n w h1 hf
    obtain rfl : n = 0 := by omega
    have hcv := fun W => run_conv_new (P := Tryz.prog) W 40 9 5 Tryz.underlying40 Tryz.underlying5 Tryz.underlying9 [48] 5 1 rfl #[.int .u8 48] rfl
    go_enter Tryz.func65, Tryz.ntmps65
    go_wp2_with fail
    go_ret
    exact ⟨by rw [itoa_small 0 (by omega)]; rfl, (Below.refl _ _).alloc (Nat.le_refl _) _⟩
  | succ f ih =>
    intro n w h1 hf
    by_cases h10 : n < 10
    · obtain ⟨c, hc⟩ : ∃ c : UInt8, UInt8.ofNat (48 + n) = c := ⟨_, rfl⟩
      have hi := itoa_small n h10
      have hcn : (c.toNat : Int) = 48 + (n : Int) := by rw [← hc, UInt8.toNat_ofNat']; omega
      rw [hc] at hi
      have H := Lib.hid hi
      have hcv := fun W => run_conv_new (P := Tryz.prog) W 40 9 5 Tryz.underlying40 Tryz.underlying5 Tryz.underlying9 [c] 5 1 rfl #[.int .u8 (48 + (n : Int))] (by
        simp [bv, hcn])
      clear hc hi hcn
      have hb : (48 + (n : Int)) % 256 = 48 + (n : Int) := by omega
      have hi10 : (n : Int) < 10 := by omega
      go_enter Tryz.func65, Tryz.ntmps65
      go_wp2_with fail
      go_ret
      exact ⟨by rw [H.out]; rfl, (Below.refl _ _).alloc (Nat.le_refl _) _⟩
    · have H := Lib.hid (itoa_big n h10)
      have l1 := itoa_len20 ((n / 10 : Nat) : Int) (by omega) (by omega)
      have l2 := itoa_len20 ((n % 10 : Nat) : Int) (by omega) (by omega)
      have hadd := run_str_addL (P := Tryz.prog) 9 (Lib.itoa ((n / 10 : Nat) : Int)) (Lib.itoa ((n % 10 : Nat) : Int)) (by omega)
      have Hih1 := Lib.hid (fun W => ih (n / 10) W (by omega) (by omega))
      have Hih2 := Lib.hid (fun W => ih (n % 10) W (by omega) (by omega))
      have hi10 : ¬ (n : Int) < 10 := by omega
      have E1 := Lib.hid (show ((n / 10 : Nat) : Int) = (n : Int) / 10 by omega)
      have E2 := Lib.hid (show ((n % 10 : Nat) : Int) = (n : Int) % 10 by omega)
      rw [E1.out] at Hih1
      rw [E2.out] at Hih2
      rw [E1.out, E2.out] at H hadd
      clear l1 l2
      generalize Lib.itoa ((n : Int) / 10) = a at *
      generalize Lib.itoa ((n : Int) % 10) = b at *
      go_enter Tryz.func65, Tryz.ntmps65
      go_wp2_with fail
      refine (Hih1.out _).mono ?_
      rintro e w1 ⟨rfl, hb1⟩
      go_wp2_with fail
      refine (Hih2.out _).mono ?_
      rintro e w2 ⟨rfl, hb2⟩
      go_wp2_with fail
      go_ret
      exact ⟨by rw [H.out]; rfl, hb1.trans (hb2.mono hb1.size)⟩
set_option maxRecDepth 100000 in
theorem numText_any (n : Int) (w : World) (h0 : -9007199254740992 ≤ n) (h1 : n ≤ 9007199254740992) :
    Calls Tryz.prog 65 #[.int .i64 n] w fun e w' => e = .returned (str (Lib.itoa n)) ∧ Below w.heap.size w w' := by
  by_cases hneg : n < 0
  · obtain ⟨u, rfl⟩ : ∃ u : Nat, n = -(u : Int) := ⟨n.natAbs, by omega⟩
    have H := Lib.hid (itoa_minus u (by omega))
    have l1 := itoa_len20 (u : Int) (by omega) (by omega)
    have hadd := run_str_addL (P := Tryz.prog) 9 [45] (Lib.itoa (u : Int)) (by simp; omega)
    have Hih := Lib.hid (fun W => numText_nat u u W (by omega) (Nat.le_refl _))
    have hu : 0 < u := by omega
    clear l1
    generalize Lib.itoa (u : Int) = a at *
    go_enter Tryz.func65, Tryz.ntmps65
    go_wp2_with fail
    refine (Hih.out _).mono ?_
    rintro e w1 ⟨rfl, hb1⟩
    go_wp2_with fail
    go_ret
    exact ⟨by rw [H.out]; rfl, hb1⟩
  · obtain ⟨u, rfl⟩ : ∃ u : Nat, n = u := ⟨n.toNat, by omega⟩
    exact numText_nat u u w (by omega) (Nat.le_refl _)

/-! ### quoted strings -/
theorem flat_take (s : List UInt8) (i : Nat) (hi : i < s.length) : (s.take (i + 1)).flatMap esc = (s.take i).flatMap esc ++ esc s[i] := by
  rw [List.take_succ_eq_append_getElem hi, List.flatMap_append]; simp
def QuoR (s : List UInt8) (w : World) (gk : Nat) (out i : Value) (wr : World) : Prop :=
  ∃ (k : Nat) (o : List UInt8), out = str o ∧ i = .int .i64 k ∧ k ≤ s.length ∧ gk = s.length - k ∧ o = 34 :: (s.take k).flatMap esc ∧ Below w.heap.size w wr
theorem flat_len (s : List UInt8) : (s.flatMap esc).length ≤ 6 * s.length := by
  induction s with
  | nil => simp
  | cons c s ih => have := esc_le c; rw [List.flatMap_cons, List.length_append, List.length_cons]; omega
theorem hex_cut (d : Nat) (h : d < 16) : (([48, 49, 50, 51, 52, 53, 54, 55, 56, 57, 97, 98, 99, 100, 101, 102] : List UInt8).drop d).take 1 = [hexD d] := by
  have : ∀ j : Fin 16, (([48, 49, 50, 51, 52, 53, 54, 55, 56, 57, 97, 98, 99, 100, 101, 102] : List UInt8).drop j.val).take 1 = [hexD j.val] := by decide +kernel
  exact this ⟨d, h⟩
theorem byte_eq (c : UInt8) (d : Nat) (hd : d < 256) : ((c.toNat : Int) == (d : Int)) = decide (c = UInt8.ofNat d) := by
  rw [Bool.eq_iff_iff]
  simp
  constructor
  · intro h; apply UInt8.toNat_inj.1; simp; omega
  · rintro rfl; simp; omega

set_option maxRecDepth 100000 in
set_option maxHeartbeats 4000000 in
theorem quoted_any (s : List UInt8) (w : World) (hs : s.length ≤ 1048576) :
    Calls Tryz.prog 66 #[str s] w fun e w' => e = .returned (str (quo s)) ∧ Below w.heap.size w w' := by
  go_enter Tryz.func66, Tryz.ntmps66
  go_wp2_with fail
  go_loopg [3, 4] s.length (QuoR s w)
  case atStart => exact ⟨0, [34], rfl, rfl, by omega, by omega, by simp, Below.refl _ _⟩
  case round =>
    obtain ⟨k, o, rfl, rfl, hk, hgk, ho, hbw⟩ := hrel
    have Hgk := Lib.hid hgk
    have Ho := Lib.hid ho
    have hol : o.length ≤ 6291460 := by
      have h1 := flat_len (s.take k)
      rw [ho, List.length_cons]
      rw [List.length_take] at h1
      omega
    clear hgk ho
    by_cases hlt : k < s.length
    · have hidx := fun W => run_index_str (P := Tryz.prog) W 9 s .i64 k Tryz.underlying9 hlt
      have hft := flat_take s k hlt
      generalize s[k] = c at *
      have Hft := Lib.hid hft
      clear hft
      have hc256 := c.toNat_lt
      have rel : ∀ (o' : List UInt8) (wr' : World), o' = o ++ esc c → Below wr.heap.size wr wr' → QuoR s w (s.length - (k + 1)) (str o') (.int .i64 ((k : Int) + 1)) wr' := by
        intro o' wr' h1 h2
        refine ⟨k + 1, o', rfl, rfl, by omega, rfl, ?_, hbw.trans (h2.mono hbw.size)⟩
        rw [h1, Ho.out, Hft.out]; simp
      have Hrel := Lib.hid rel
      clear rel
      have gen : ∀ d : Nat, d < 256 → c ≠ UInt8.ofNat d → ((c.toNat : Int) == (d : Int)) = false := fun d hd h => by rw [byte_eq c d hd]; exact decide_eq_false h
      have Gen := Lib.hid gen
      clear gen
      by_cases h34 : c = 34
      · subst h34
        have hcv := fun W => run_conv_new (P := Tryz.prog) W 40 9 5 Tryz.underlying40 Tryz.underlying5 Tryz.underlying9 [92, 34] 5 2 rfl #[.int .u8 92, .int .u8 34] rfl
        have hadd := run_str_addL (P := Tryz.prog) 9 o [92, 34] (by simp; omega)
        go_wp2_with fail
        go_roundg (s.length - (k + 1))
        case measure => have := Hgk.out; omega
        case rel => exact Hrel.out _ _ rfl ((Below.refl _ _).alloc (Nat.le_refl _) _)
      by_cases h92 : c = 92
      · subst h92
        have hcv := fun W => run_conv_new (P := Tryz.prog) W 40 9 5 Tryz.underlying40 Tryz.underlying5 Tryz.underlying9 [92, 92] 5 2 rfl #[.int .u8 92, .int .u8 92] rfl
        have hadd := run_str_addL (P := Tryz.prog) 9 o [92, 92] (by simp; omega)
        go_wp2_with fail
        go_roundg (s.length - (k + 1))
        case measure => have := Hgk.out; omega
        case rel => exact Hrel.out _ _ rfl ((Below.refl _ _).alloc (Nat.le_refl _) _)
      by_cases h8 : c = 8
      · subst h8
        have hadd := run_str_addL (P := Tryz.prog) 9 o [92, 98] (by simp; omega)
        go_wp2_with fail
        go_roundg (s.length - (k + 1))
        case measure => have := Hgk.out; omega
        case rel => exact Hrel.out _ _ rfl (Below.refl _ _)
      by_cases h9 : c = 9
      · subst h9
        have hadd := run_str_addL (P := Tryz.prog) 9 o [92, 116] (by simp; omega)
        go_wp2_with fail
        go_roundg (s.length - (k + 1))
        case measure => have := Hgk.out; omega
        case rel => exact Hrel.out _ _ rfl (Below.refl _ _)
      by_cases h10 : c = 10
      · subst h10
        have hadd := run_str_addL (P := Tryz.prog) 9 o [92, 110] (by simp; omega)
        go_wp2_with fail
        go_roundg (s.length - (k + 1))
        case measure => have := Hgk.out; omega
        case rel => exact Hrel.out _ _ rfl (Below.refl _ _)
      by_cases h12 : c = 12
      · subst h12
        have hadd := run_str_addL (P := Tryz.prog) 9 o [92, 102] (by simp; omega)
        go_wp2_with fail
        go_roundg (s.length - (k + 1))
        case measure => have := Hgk.out; omega
        case rel => exact Hrel.out _ _ rfl (Below.refl _ _)
      by_cases h13 : c = 13
      · subst h13
        have hadd := run_str_addL (P := Tryz.prog) 9 o [92, 114] (by simp; omega)
        go_wp2_with fail
        go_roundg (s.length - (k + 1))
        case measure => have := Hgk.out; omega
        case rel => exact Hrel.out _ _ rfl (Below.refl _ _)
      have g34 : ((c.toNat : Int) == 34) = false := Gen.out 34 (by omega) h34
      have g92 : ((c.toNat : Int) == 92) = false := Gen.out 92 (by omega) h92
      have g8 : ((c.toNat : Int) == 8) = false := Gen.out 8 (by omega) h8
      have g9 : ((c.toNat : Int) == 9) = false := Gen.out 9 (by omega) h9
      have g10 : ((c.toNat : Int) == 10) = false := Gen.out 10 (by omega) h10
      have g12 : ((c.toNat : Int) == 12) = false := Gen.out 12 (by omega) h12
      have g13 : ((c.toNat : Int) == 13) = false := Gen.out 13 (by omega) h13
      have he : esc c = if c.toNat < 32 then [92, 117, 48, 48, hexD (c.toNat / 16), hexD (c.toNat % 16)] else [c] := by
        unfold esc
        rw [if_neg h34, if_neg h92, if_neg h8, if_neg h9, if_neg h10, if_neg h12, if_neg h13]
      clear h34 h92 h8 h9 h10 h12 h13 Gen
      by_cases h32 : c.toNat < 32
      · rw [if_pos h32] at he
        have He := Lib.hid he
        clear he
        have h32b : decide ((c.toNat : Int) < 32) = true := by simp; omega
        obtain ⟨d1, hd1⟩ : ∃ d1 : Nat, c.toNat / 16 = d1 := ⟨_, rfl⟩
        obtain ⟨d2, hd2⟩ : ∃ d2 : Nat, c.toNat % 16 = d2 := ⟨_, rfl⟩
        have e1 : (c.toNat : Int) / 16 = (d1 : Int) := by omega
        have e2 : (c.toNat : Int) % 16 = (d2 : Int) := by omega
        rw [hd1, hd2] at He
        have hs1 : ∀ W, (Instr.slice 9 (str [48, 49, 50, 51, 52, 53, 54, 55, 56, 57, 97, 98, 99, 100, 101, 102]) (some (.int .u8 (d1 : Int))) none none).run Tryz.prog W = .ok (str (([48, 49, 50, 51, 52, 53, 54, 55, 56, 57, 97, 98, 99, 100, 101, 102] : List UInt8).drop d1)) W :=
          fun W => run_str_l (P := Tryz.prog) W 9 Tryz.underlying9 [48, 49, 50, 51, 52, 53, 54, 55, 56, 57, 97, 98, 99, 100, 101, 102] .u8 (d1 : Int) d1 rfl (by simp; omega)
        have hs2 : ∀ W, (Instr.slice 9 (str (([48, 49, 50, 51, 52, 53, 54, 55, 56, 57, 97, 98, 99, 100, 101, 102] : List UInt8).drop d1)) none (some (.int .i64 1)) none).run Tryz.prog W = .ok (str [hexD d1]) W :=
          fun W => by rw [run_str_h (P := Tryz.prog) W 9 Tryz.underlying9 _ .i64 1 1 rfl (by simp; omega), hex_cut d1 (by omega)]
        have hs3 : ∀ W, (Instr.slice 9 (str [48, 49, 50, 51, 52, 53, 54, 55, 56, 57, 97, 98, 99, 100, 101, 102]) (some (.int .u8 (d2 : Int))) none none).run Tryz.prog W = .ok (str (([48, 49, 50, 51, 52, 53, 54, 55, 56, 57, 97, 98, 99, 100, 101, 102] : List UInt8).drop d2)) W :=
          fun W => run_str_l (P := Tryz.prog) W 9 Tryz.underlying9 [48, 49, 50, 51, 52, 53, 54, 55, 56, 57, 97, 98, 99, 100, 101, 102] .u8 (d2 : Int) d2 rfl (by simp; omega)
        have hs4 : ∀ W, (Instr.slice 9 (str (([48, 49, 50, 51, 52, 53, 54, 55, 56, 57, 97, 98, 99, 100, 101, 102] : List UInt8).drop d2)) none (some (.int .i64 1)) none).run Tryz.prog W = .ok (str [hexD d2]) W :=
          fun W => by rw [run_str_h (P := Tryz.prog) W 9 Tryz.underlying9 _ .i64 1 1 rfl (by simp; omega), hex_cut d2 (by omega)]
        clear hd1 hd2
        generalize ([48, 49, 50, 51, 52, 53, 54, 55, 56, 57, 97, 98, 99, 100, 101, 102] : List UInt8).drop d1 = D1 at *
        generalize ([48, 49, 50, 51, 52, 53, 54, 55, 56, 57, 97, 98, 99, 100, 101, 102] : List UInt8).drop d2 = D2 at *
        generalize hexD d1 = x1 at *
        generalize hexD d2 = x2 at *
        have c1 := run_str_addL (P := Tryz.prog) 9 [92, 117, 48, 48] [x1] (by simp)
        have c2 := run_str_addL (P := Tryz.prog) 9 ([92, 117, 48, 48] ++ [x1]) [x2] (by simp)
        have c3 := run_str_addL (P := Tryz.prog) 9 o ([92, 117, 48, 48] ++ [x1] ++ [x2]) (by simp; omega)
        generalize hz : ([92, 117, 48, 48] ++ [x1] ++ [x2] : List UInt8) = z at *
        generalize hy : ([92, 117, 48, 48] ++ [x1] : List UInt8) = y at *
        have Hz := Lib.hid hz
        have Hy := Lib.hid hy
        clear hz hy
        go_wp2_with fail
        go_quiet (fail)
        go_wp2_with fail
        go_roundg (s.length - (k + 1))
        case measure => have := Hgk.out; omega
        case rel => exact Hrel.out _ _ (by rw [He.out, ← Hz.out, ← Hy.out]; rfl) (below_drewN (Below.refl _ _) _)
      · rw [if_neg h32] at he
        have He := Lib.hid he
        clear he
        have h32b : decide ((c.toNat : Int) < 32) = false := by simp; omega
        have h32c : ¬ (c.toNat : Int) < 32 := by omega
        have hcv := fun W => run_conv_new (P := Tryz.prog) W 40 9 5 Tryz.underlying40 Tryz.underlying5 Tryz.underlying9 [c] 5 1 rfl #[.int .u8 (c.toNat : Int)] rfl
        have hadd := run_str_addL (P := Tryz.prog) 9 o [c] (by simp; omega)
        go_wp2_with fail
        go_roundg (s.length - (k + 1))
        case measure => have := Hgk.out; omega
        case rel => exact Hrel.out _ _ (by rw [He.out]) ((Below.refl _ _).alloc (Nat.le_refl _) _)
    · have Hfin := Lib.hid (show o ++ [34] = quo s by rw [Ho.out, List.take_of_length_le (by omega)]; simp [quo])
      have hadd := run_str_addL (P := Tryz.prog) 9 o [34] (by simp; omega)
      rw [Hfin.out] at hadd
      go_wp2_with fail
      go_ret
      exact ⟨rfl, hbw⟩
end Go.Proofs.YtbdbcffnjibjoaaGreatDoor

/- The document's own jsonCount and jsonFault: what each call returns. -/
namespace Go.Proofs.YtbdbcffnjibjoaaGreatDoor
set_option linter.unusedVariables false
set_option linter.unusedSimpArgs false
open Go.RowKit
attribute [local go_sem high] str_mk

theorem len_counts : ∀ ps : List JV, ps.length ≤ counts ps
  | [] => by simp
  | p :: r => by have := len_counts r; cases p; simp [counts, count]; omega
def RcR (ps : List JV) (w : World) (gk : Nat) (n i : Value) (wr : World) : Prop :=
  ∃ (k m : Nat), n = .int .i64 (m : Int) ∧ i = .int .i64 k ∧ k ≤ ps.length ∧ gk = ps.length - k ∧ m + counts (ps.drop k) = counts ps ∧ Below w.heap.size w wr
set_option maxRecDepth 100000 in
set_option maxHeartbeats 2000000 in
theorem refCount_any (f : Nat) : ∀ (ps : List JV) (pc : List Value) (A : Option Addr) (c : Nat) (w : World) (B : Nat), counts ps ≤ f → counts ps ≤ 4611686018427387904 → B ≤ w.heap.size → Holds w B 5 A ps.length pc → PIn w B ps pc →
    Calls Tryz.prog 43 #[.slice A ps.length c] w fun e w' => e = .returned (.int .i64 (counts ps)) ∧ Below w.heap.size w w' := by
  induction f with
  | zero =>
    intro ps pc A c w B hf _ hB hh hp
    have h0 : ps = [] := by
      cases ps with
      | nil => rfl
      | cons p r => cases p; simp [counts, count] at hf
    subst h0
    go_enter Tryz.func43, Tryz.ntmps43
    go_wp2_with fail
    go_loopg [3, 8] 0 (RcR [] w)
    case atStart => exact ⟨0, 0, rfl, rfl, by simp, by simp, by simp, Below.refl _ _⟩
    case round =>
      obtain ⟨k, m, rfl, rfl, hk, hgk, hm, hbw⟩ := hrel
      have hk0 : k = 0 := by simpa using hk
      have hm0 : m = 0 := by simp [counts] at hm; exact hm
      subst hk0 hm0
      clear hgk hm
      go_wp2_with fail
      go_ret
      exact ⟨by simp [counts], hbw⟩
  | succ f ih =>
    intro ps pc A c w B hf hmax hB hh hp
    have Hf := Lib.hid hf
    have Hmax := Lib.hid hmax
    clear hf hmax
    go_enter Tryz.func43, Tryz.ntmps43
    go_wp2_with fail
    go_loopg [3, 8] ps.length (RcR ps w)
    case atStart => exact ⟨0, 0, rfl, rfl, by omega, by omega, by simp, Below.refl _ _⟩
    case round =>
      obtain ⟨k, m, rfl, rfl, hk, hgk, hm, hbw⟩ := hrel
      have Hgk := Lib.hid hgk
      have Hm := Lib.hid hm
      clear hgk hm
      by_cases hlt : k < ps.length
      · have hbB := hbw.mono hB
        obtain ⟨b, off, k2, n2, t2, Ak2, nk2, ck2, Ap2, np2, cp2, rfl, hb, hv, c0, c1, c2, c3, c4⟩ := part_cells (hh.below hbB) (hp.below hbB) k hlt
        have Hcd := Lib.hid (counts_drop ps k hlt)
        have hszr := hbw.size
        cases hq : ps[k] with
        | mk k3 n3 t3 ks3 qs =>
        rw [hq] at hv Hcd
        unfold VIn at hv
        obtain ⟨Ak3, ck3, Ap3, cp3, qc, hcs, _, _, _, _, _, _, _, _, _, hh3, hp3⟩ := hv
        injection hcs with e0 hcs; injection hcs with e1 hcs; injection hcs with e2 hcs; injection hcs with e3 hcs; injection hcs with e4 _
        injection e4 with e5 e6 e7
        subst e5 e6 e7
        have Hq := Lib.hid hq
        clear hq e0 e1 e2 e3
        have hsum : m + (1 + counts qs) ≤ counts ps := by
          have h1 := Hm.out; rw [Hcd.out] at h1; simp only [count] at h1; omega
        have hq1 : counts qs ≤ f := by have := Hf.out; omega
        have hmx := Hmax.out
        have hlc := len_counts ps
        have hk9 : (k : Int) + 1 ≤ 4611686018427387904 := by omega
        have hcq : (counts qs : Int) + 1 ≤ 9223372036854775807 := by omega
        have hcm : (m : Int) + (1 + (counts qs : Int)) ≤ 9223372036854775807 := by omega
        have hcm2 : (1 : Int) + (counts qs : Int) ≤ 9223372036854775807 := by omega
        have hh4 := fun o => hh3.alloc (Nat.le_trans hB hszr) o
        have hp4 := fun o => PIn.kept (w' := wr.alloc o) (fun p hp => World.cell?_alloc_lt _ _ p (by omega)) _ _ hp3
        go_wp2_with fail
        refine (ih qs qc Ap2 cp2 _ B hq1 (by omega) (by simp; omega) (hh4 _) (hp4 _)).mono ?_
        rintro e w3 ⟨rfl, hb3⟩
        have hw3 : Below w.heap.size w w3 := (hbw.alloc hszr _).trans (hb3.mono (by simp; omega))
        have Hn := Lib.hid (show (m + (1 + counts qs)) + counts (ps.drop (k + 1)) = counts ps by
          have h1 := Hm.out; rw [Hcd.out] at h1; simp only [count] at h1; omega)
        generalize counts qs = cq at *
        go_wp2_with fail
        go_roundg (ps.length - (k + 1))
        case measure => have := Hgk.out; omega
        case rel => exact ⟨k + 1, m + (1 + cq), by go_num, by go_num, by omega, rfl, Hn.out, hw3⟩
      · have Hfin := Lib.hid (show m = counts ps by have h1 := Hm.out; rw [List.drop_eq_nil_of_le (by omega)] at h1; simpa [counts] using h1)
        go_wp2_with fail
        go_ret
        exact ⟨by rw [← Hfin.out]; rfl, hbw⟩

/-! ### jsonFault -/
def RfK (ks : List (List UInt8)) (w : World) (gk : Nat) (i : Value) (wr : World) : Prop :=
  ∃ k q : Nat, i = .int .i64 k ∧ 1 ≤ k ∧ (k = 1 ∨ k ≤ ks.length) ∧ gk = ks.length + 1 - k ∧ incr ks = incr (ks.drop (k - 1)) ∧ wr = w.drewN q
def RfP (ps : List JV) (d : Nat) (w : World) (gk : Nat) (i : Value) (wr : World) : Prop :=
  ∃ k : Nat, i = .int .i64 k ∧ k ≤ ps.length ∧ gk = ps.length - k ∧ faults d ps = faults d (ps.drop k) ∧ Below w.heap.size w wr
theorem fault_eq (k n : Int) (t : List UInt8) (ks : List (List UInt8)) (ps : List JV) (d : Nat) : fault d (.mk k n t ks ps) =
   (if 6 ≤ d then (5 : Int) else if k < 1 ∨ 7 < k then 3 else if unusedB k n t ks.length ps.length = true then 4
    else if k = 7 ∧ (ks.length ≠ ps.length ∨ incr ks = false) then 4
    else if n ≤ -9007199254740992 ∨ 9007199254740992 ≤ n then 2 else faults (d + 1) ps) := by
  rw [fault, alone_eq]
  repeat' split
  all_goals first | rfl | (exfalso; simp_all; done) | simp_all

set_option maxRecDepth 100000 in
set_option maxHeartbeats 4000000 in
theorem refFault_any (f : Nat) : ∀ (v : JV) (d : Nat) (cs : List Value) (w : World) (B : Nat), 6 < d + f → d ≤ 6 → B ≤ w.heap.size → VIn w B v cs →
    Calls Tryz.prog 42 #[.agg cs.toArray, .int .i64 d] w fun e w' => e = .returned (.int .i64 (fault d v)) ∧ Below w.heap.size w w' := by
  induction f with
  | zero => intro v d cs w B h1 h2; omega
  | succ f ih =>
    intro v d cs w B hdf hd6 hB hv
    cases v with
    | mk k n t ks ps =>
    unfold VIn at hv
    obtain ⟨Ak, ck, Ap, cp, pc, rfl, hk1, hn1, ht, hks, hps, hkl, hck, hcp, hh1, hh2, hpin⟩ := hv
    have Hfe := Lib.hid (fault_eq k n t ks ps d)
    have HW := Lib.hid (show Below w.heap.size w (w.alloc (.cells #[.int .i64 k, .int .i64 n, str t, .slice Ak ks.length ck, .slice Ap ps.length cp] 25)) from (Below.refl _ _).alloc (Nat.le_refl _) _)
    by_cases hd : 6 ≤ d
    · have hd5 : (5 : Int) < (d : Int) := by omega
      go_enter Tryz.func42, Tryz.ntmps42
      go_wp2_with fail
      go_ret
      exact ⟨by rw [Hfe.out, if_pos hd]; rfl, HW.out⟩
    rw [if_neg hd] at Hfe
    have hd5 : ¬ (5 : Int) < (d : Int) := by omega
    have hdb : decide ((5 : Int) < (d : Int)) = false := by simp; omega
    have Hd := Lib.hid hd
    clear hd
    by_cases hk : k < 1
    · have hkb : decide (k < 1) = true := by simpa using hk
      go_enter Tryz.func42, Tryz.ntmps42
      go_wp2_with fail
      go_ret
      exact ⟨by rw [Hfe.out, if_pos (.inl hk)]; rfl, HW.out⟩
    by_cases hk2 : 7 < k
    · have hkb : decide (k < 1) = false := by simpa using hk
      have hkb2 : decide (7 < k) = true := by simpa using hk2
      go_enter Tryz.func42, Tryz.ntmps42
      go_wp2_with fail
      go_ret
      exact ⟨by rw [Hfe.out, if_pos (.inr hk2)]; rfl, HW.out⟩
    rw [if_neg (by omega)] at Hfe
    have hkb : decide (k < 1) = false := by simpa using hk
    have hkb2 : decide (7 < k) = false := by simpa using hk2
    by_cases h7 : k = 7
    · subst h7
      by_cases hn0 : n = 0
      rotate_left
      · have hb : (n != 0) = true := by simpa using hn0
        go_enter Tryz.func42, Tryz.ntmps42
        go_wp2_with fail
        go_ret
        exact ⟨by rw [Hfe.out, if_pos (by simp [unusedB, hn0])]; rfl, HW.out⟩
      subst hn0
      by_cases ht0 : t = []
      rotate_left
      · have hb : (t == []) = false := by simpa using ht0
        go_enter Tryz.func42, Tryz.ntmps42
        go_wp2_with fail
        go_ret
        exact ⟨by rw [Hfe.out, if_pos (by simp [unusedB, ht0])]; rfl, HW.out⟩
      subst ht0
      rw [if_neg (by simp [unusedB])] at Hfe
      by_cases hlen : ks.length = ps.length
      rotate_left
      · have hlb : ((ks.length : Int) != (ps.length : Int)) = true := by rw [bne_iff_ne]; omega
        have Hlen := Lib.hid hlen
        clear hlen
        go_enter Tryz.func42, Tryz.ntmps42
        go_wp2_with fail
        go_ret
        exact ⟨by rw [Hfe.out, if_pos ⟨by first | rfl | trivial, .inl Hlen.out⟩]; rfl, HW.out⟩
      have hlb : ((ks.length : Int) != (ps.length : Int)) = false := by rw [bne_eq_false_iff_eq]; omega
      have Hf2 := Lib.hid (show fault d (.mk 7 0 [] ks ps) = if incr ks = false then 4 else if (0 : Int) ≤ -9007199254740992 ∨ 9007199254740992 ≤ (0 : Int) then 2 else faults (d + 1) ps by
        rw [Hfe.out]
        by_cases hi : incr ks = false
        · rw [if_pos ⟨by first | rfl | trivial, .inr hi⟩, if_pos hi]
        · rw [if_neg (by rintro ⟨_, h | h⟩; exact h hlen; exact hi h), if_neg hi])
      clear hlen
      have hbA0 := Blk.new w 25 #[.int .i64 7, .int .i64 0, str [], .slice Ak ks.length ck, .slice Ap ps.length cp]
      have HbA := Lib.hid hbA0
      clear hbA0
      go_enter Tryz.func42, Tryz.ntmps42
      go_wp2_with fail
      have hW := HW.out
      have hbA := HbA.out
      have hszW : (w.alloc (.cells #[.int .i64 7, .int .i64 0, str [], .slice Ak ks.length ck, .slice Ap ps.length cp] 25)).heap.size = w.heap.size + 1 := by simp
      generalize (w.alloc (.cells #[.int .i64 7, .int .i64 0, str [], .slice Ak ks.length ck, .slice Ap ps.length cp] 25)) = W0 at *
      clear HW HbA
      have hh1w := hh1.below (hW.mono hB)
      have a1 : W0.cell? ⟨w.heap.size, 1, none⟩ = some (.int .i64 0) := hbA.cell 1
      have a3 : W0.cell? ⟨w.heap.size, 3, none⟩ = some (.slice Ak ks.length ck) := hbA.cell 3
      have a4 : W0.cell? ⟨w.heap.size, 4, none⟩ = some (.slice Ap ps.length cp) := hbA.cell 4
      go_loopg [5] ks.length (RfK ks W0)
      case atStart => exact ⟨1, 0, rfl, by omega, .inl rfl, by omega, by simp, rfl⟩
      case round =>
        obtain ⟨i, q, rfl, h1, hi, hgk, hin, rfl⟩ := hrel
        have Hgk := Lib.hid hgk
        have Hin0 := Lib.hid hin
        clear hgk hin
        by_cases hlt : i < ks.length
        · obtain ⟨b, off, hl1, rfl, hb, hc1⟩ := hh1w.str hlt
          obtain ⟨b', off', hl0, he, hb', hc0⟩ := hh1w.str (k := i - 1) (by omega)
          injection he with he
          injection he with he1 he2
          subst he1 he2
          have Hin := Lib.hid (Hin0.out.trans (incr_drop ks i h1 hlt))
          generalize ks[i - 1] = sa at *
          generalize ks[i] = sb at *
          have e1 : ((i : Int) - 1).toNat = i - 1 := by omega
          have e2 : (0 : Int) ≤ (i : Int) - 1 := by omega
          have e3 : (i : Int) - 1 < (ks.length : Int) := by omega
          go_wp2_with fail
          go_quiet (fail)
          cases hlt2 : Op.bytesLess sa sb
          · go_wp2_with fail
            go_ret
            exact ⟨by rw [Hf2.out, if_pos (by rw [Hin.out, hlt2]; rfl)]; rfl, below_drewN (below_drewN hW _) _⟩
          · go_wp2_with fail
            go_roundg (ks.length - i)
            case measure => have := Hgk.out; omega
            case rel => exact ⟨i + 1, _, by go_num, by omega, .inr (by omega), by omega, by rw [Hin.out, hlt2]; simp, rfl⟩
        · have Hin := Lib.hid (Hin0.out.trans (incr_end ks (i - 1) (by omega)))
          rw [if_neg (by rw [Hin.out]; simp)] at Hf2
          have hWq : Below w.heap.size w (W0.drewN q) := below_drewN hW q
          have hbAq : Blk (W0.drewN q) w.heap.size 25 #[.int .i64 7, .int .i64 0, str [], .slice Ak ks.length ck, .slice Ap ps.length cp] := hbA
          have hszq : (W0.drewN q).heap.size = w.heap.size + 1 := hszW
          rw [if_neg (by omega)] at Hf2
          go_wp2_with fail
          generalize W0.drewN q = W1 at *
          clear a1 a3 a4 hh1w hbA hW
          go_loopg [106] ps.length (RfP ps (d + 1) W1)
          case atStart => exact ⟨0, rfl, by omega, by omega, by simp, Below.refl _ _⟩
          case round =>
            obtain ⟨j, rfl, hj, hgj, hft, hbw⟩ := hrel
            have Hgj := Lib.hid hgj
            have Hft := Lib.hid hft
            clear hgj hft
            have hwr : Below w.heap.size w wr := hWq.trans (hbw.mono hWq.size)
            have hszr := hwr.size
            by_cases hltp : j < ps.length
            · obtain ⟨b, off, k2, n2, t2, Ak2, nk2, ck2, Ap2, np2, cp2, rfl, hb, hv, c0, c1, c2, c3, c4⟩ := part_cells (hh2.below (hwr.mono hB)) (hpin.below (hwr.mono hB)) j hltp
              have Hfd := Lib.hid (faults_drop (d + 1) ps j hltp)
              have hpart : VIn (wr.alloc (.cells #[.int .i64 k2, .int .i64 n2, str t2, .slice Ak2 nk2 ck2, .slice Ap2 np2 cp2] 25)) B ps[j] [.int .i64 k2, .int .i64 n2, str t2, .slice Ak2 nk2 ck2, .slice Ap2 np2 cp2] :=
                VIn.kept (fun p hp => World.cell?_alloc_lt _ _ p (by omega)) _ _ hv
              have hbal : Below W1.heap.size W1 (wr.alloc (.cells #[.int .i64 k2, .int .i64 n2, str t2, .slice Ak2 nk2 ck2, .slice Ap2 np2 cp2] 25)) := hbw.alloc hbw.size _
              have Hih := Lib.hid (ih ps[j] (d + 1) _ _ B (by omega) (by have := Hd.out; omega) (by simp; omega) hpart)
              clear hpart hv
              generalize fault (d + 1) ps[j] = fa at *
              go_wp2_with fail
              refine Hih.out.mono ?_
              rintro e w3 ⟨rfl, hb3⟩
              have hw3 := hbal.trans (hb3.mono hbal.size)
              by_cases hz : fa = 0
              · subst hz
                have Hfn := Lib.hid (show faults (d + 1) ps = faults (d + 1) (ps.drop (j + 1)) by rw [Hft.out, Hfd.out, if_neg (by simp)])
                go_wp2_with fail
                go_roundg (ps.length - (j + 1))
                case measure => have := Hgj.out; omega
                case rel => exact ⟨j + 1, by go_num, by omega, rfl, Hfn.out, hw3⟩
              · have Hfn := Lib.hid (show faults (d + 1) ps = fa by rw [Hft.out, Hfd.out, if_pos hz])
                have hab : (fa != 0) = true := by simpa using hz
                go_wp2_with fail
                go_ret
                exact ⟨by rw [Hf2.out, Hfn.out]; rfl, hWq.trans (hw3.mono hWq.size)⟩
            · have Hend := Lib.hid (show faults (d + 1) ps = 0 by rw [Hft.out, List.drop_of_length_le (by omega), faults])
              go_wp2_with fail
              go_ret
              exact ⟨by rw [Hf2.out, Hend.out]; rfl, hwr⟩
    by_cases h6 : k = 6
    · subst h6
      by_cases hn0 : n = 0
      rotate_left
      · have hb : (n != 0) = true := by simpa using hn0
        go_enter Tryz.func42, Tryz.ntmps42
        go_wp2_with fail
        go_ret
        exact ⟨by rw [Hfe.out, if_pos (by simp [unusedB, hn0])]; rfl, HW.out⟩
      subst hn0
      by_cases ht0 : t = []
      rotate_left
      · have hb : (t == []) = false := by simpa using ht0
        go_enter Tryz.func42, Tryz.ntmps42
        go_wp2_with fail
        go_ret
        exact ⟨by rw [Hfe.out, if_pos (by simp [unusedB, ht0])]; rfl, HW.out⟩
      subst ht0
      by_cases hks0 : ks.length = 0
      rotate_left
      · have hb : decide ((0 : Int) < (ks.length : Int)) = true := decide_eq_true (by omega)
        have hpos : 0 < ks.length := by omega
        clear hks0
        go_enter Tryz.func42, Tryz.ntmps42
        go_wp2_with fail
        go_ret
        exact ⟨by rw [Hfe.out, if_pos (by unfold unusedB; rw [decide_eq_true hpos]; simp)]; rfl, HW.out⟩
      have hksb : decide ((0 : Int) < (ks.length : Int)) = false := decide_eq_false (by omega)
      have hksn : ¬ 0 < ks.length := by omega
      have Hks0 := Lib.hid hks0
      clear hks0
      rw [if_neg (by unfold unusedB; rw [decide_eq_false hksn]; simp)] at Hfe
      have hks1 : ks = [] := List.eq_nil_of_length_eq_zero Hks0.out
      have Hf2 := Lib.hid (show fault d (.mk 6 0 [] ks ps) = if incr ks = false then 4 else if (0 : Int) ≤ -9007199254740992 ∨ 9007199254740992 ≤ (0 : Int) then 2 else faults (d + 1) ps by
        rw [Hfe.out, if_neg (fun h => absurd h.1 (by first | decide | exact h7)), if_neg (show ¬ incr ks = false by rw [hks1]; simp [incr])])
      clear hks1
      have hbA0 := Blk.new w 25 #[.int .i64 6, .int .i64 0, str [], .slice Ak ks.length ck, .slice Ap ps.length cp]
      have HbA := Lib.hid hbA0
      clear hbA0
      go_enter Tryz.func42, Tryz.ntmps42
      go_wp2_with fail
      have hW := HW.out
      have hbA := HbA.out
      have hszW : (w.alloc (.cells #[.int .i64 6, .int .i64 0, str [], .slice Ak ks.length ck, .slice Ap ps.length cp] 25)).heap.size = w.heap.size + 1 := by simp
      generalize (w.alloc (.cells #[.int .i64 6, .int .i64 0, str [], .slice Ak ks.length ck, .slice Ap ps.length cp] 25)) = W0 at *
      clear HW HbA
      have hh1w := hh1.below (hW.mono hB)
      have a1 : W0.cell? ⟨w.heap.size, 1, none⟩ = some (.int .i64 0) := hbA.cell 1
      have a3 : W0.cell? ⟨w.heap.size, 3, none⟩ = some (.slice Ak ks.length ck) := hbA.cell 3
      have a4 : W0.cell? ⟨w.heap.size, 4, none⟩ = some (.slice Ap ps.length cp) := hbA.cell 4
      go_loopg [5] ks.length (RfK ks W0)
      case atStart => exact ⟨1, 0, rfl, by omega, .inl rfl, by omega, by simp, rfl⟩
      case round =>
        obtain ⟨i, q, rfl, h1, hi, hgk, hin, rfl⟩ := hrel
        have Hgk := Lib.hid hgk
        have Hin0 := Lib.hid hin
        clear hgk hin
        by_cases hlt : i < ks.length
        · exact absurd (show 0 < ks.length by omega) hksn
        · have Hin := Lib.hid (Hin0.out.trans (incr_end ks (i - 1) (by omega)))
          rw [if_neg (by rw [Hin.out]; simp)] at Hf2
          have hWq : Below w.heap.size w (W0.drewN q) := below_drewN hW q
          have hbAq : Blk (W0.drewN q) w.heap.size 25 #[.int .i64 6, .int .i64 0, str [], .slice Ak ks.length ck, .slice Ap ps.length cp] := hbA
          have hszq : (W0.drewN q).heap.size = w.heap.size + 1 := hszW
          rw [if_neg (by omega)] at Hf2
          go_wp2_with fail
          generalize W0.drewN q = W1 at *
          clear a1 a3 a4 hh1w hbA hW
          go_loopg [106] ps.length (RfP ps (d + 1) W1)
          case atStart => exact ⟨0, rfl, by omega, by omega, by simp, Below.refl _ _⟩
          case round =>
            obtain ⟨j, rfl, hj, hgj, hft, hbw⟩ := hrel
            have Hgj := Lib.hid hgj
            have Hft := Lib.hid hft
            clear hgj hft
            have hwr : Below w.heap.size w wr := hWq.trans (hbw.mono hWq.size)
            have hszr := hwr.size
            by_cases hltp : j < ps.length
            · obtain ⟨b, off, k2, n2, t2, Ak2, nk2, ck2, Ap2, np2, cp2, rfl, hb, hv, c0, c1, c2, c3, c4⟩ := part_cells (hh2.below (hwr.mono hB)) (hpin.below (hwr.mono hB)) j hltp
              have Hfd := Lib.hid (faults_drop (d + 1) ps j hltp)
              have hpart : VIn (wr.alloc (.cells #[.int .i64 k2, .int .i64 n2, str t2, .slice Ak2 nk2 ck2, .slice Ap2 np2 cp2] 25)) B ps[j] [.int .i64 k2, .int .i64 n2, str t2, .slice Ak2 nk2 ck2, .slice Ap2 np2 cp2] :=
                VIn.kept (fun p hp => World.cell?_alloc_lt _ _ p (by omega)) _ _ hv
              have hbal : Below W1.heap.size W1 (wr.alloc (.cells #[.int .i64 k2, .int .i64 n2, str t2, .slice Ak2 nk2 ck2, .slice Ap2 np2 cp2] 25)) := hbw.alloc hbw.size _
              have Hih := Lib.hid (ih ps[j] (d + 1) _ _ B (by omega) (by have := Hd.out; omega) (by simp; omega) hpart)
              clear hpart hv
              generalize fault (d + 1) ps[j] = fa at *
              go_wp2_with fail
              refine Hih.out.mono ?_
              rintro e w3 ⟨rfl, hb3⟩
              have hw3 := hbal.trans (hb3.mono hbal.size)
              by_cases hz : fa = 0
              · subst hz
                have Hfn := Lib.hid (show faults (d + 1) ps = faults (d + 1) (ps.drop (j + 1)) by rw [Hft.out, Hfd.out, if_neg (by simp)])
                go_wp2_with fail
                go_roundg (ps.length - (j + 1))
                case measure => have := Hgj.out; omega
                case rel => exact ⟨j + 1, by go_num, by omega, rfl, Hfn.out, hw3⟩
              · have Hfn := Lib.hid (show faults (d + 1) ps = fa by rw [Hft.out, Hfd.out, if_pos hz])
                have hab : (fa != 0) = true := by simpa using hz
                go_wp2_with fail
                go_ret
                exact ⟨by rw [Hf2.out, Hfn.out]; rfl, hWq.trans (hw3.mono hWq.size)⟩
            · have Hend := Lib.hid (show faults (d + 1) ps = 0 by rw [Hft.out, List.drop_of_length_le (by omega), faults])
              go_wp2_with fail
              go_ret
              exact ⟨by rw [Hf2.out, Hend.out]; rfl, hwr⟩
    by_cases h5 : k = 5
    · subst h5
      by_cases hn0 : n = 0
      rotate_left
      · have hb : (n != 0) = true := by simpa using hn0
        go_enter Tryz.func42, Tryz.ntmps42
        go_wp2_with fail
        go_ret
        exact ⟨by rw [Hfe.out, if_pos (by simp [unusedB, hn0])]; rfl, HW.out⟩
      subst hn0
      by_cases hks0 : ks.length = 0
      rotate_left
      · have hb : decide ((0 : Int) < (ks.length : Int)) = true := decide_eq_true (by omega)
        have hpos : 0 < ks.length := by omega
        clear hks0
        go_enter Tryz.func42, Tryz.ntmps42
        go_wp2_with fail
        go_ret
        exact ⟨by rw [Hfe.out, if_pos (by unfold unusedB; rw [decide_eq_true hpos]; simp)]; rfl, HW.out⟩
      have hksb : decide ((0 : Int) < (ks.length : Int)) = false := decide_eq_false (by omega)
      have hksn : ¬ 0 < ks.length := by omega
      have Hks0 := Lib.hid hks0
      clear hks0
      by_cases hps0 : ps.length = 0
      rotate_left
      · have hb : decide ((0 : Int) < (ps.length : Int)) = true := decide_eq_true (by omega)
        have hpos : 0 < ps.length := by omega
        clear hps0
        go_enter Tryz.func42, Tryz.ntmps42
        go_wp2_with fail
        go_ret
        exact ⟨by rw [Hfe.out, if_pos (by unfold unusedB; rw [decide_eq_true hpos]; simp)]; rfl, HW.out⟩
      have hpsb : decide ((0 : Int) < (ps.length : Int)) = false := decide_eq_false (by omega)
      have hpsn : ¬ 0 < ps.length := by omega
      clear hps0
      rw [if_neg (by unfold unusedB; rw [decide_eq_false hksn, decide_eq_false hpsn]; simp)] at Hfe
      have hks1 : ks = [] := List.eq_nil_of_length_eq_zero Hks0.out
      have Hf2 := Lib.hid (show fault d (.mk 5 0 t ks ps) = if incr ks = false then 4 else if (0 : Int) ≤ -9007199254740992 ∨ 9007199254740992 ≤ (0 : Int) then 2 else faults (d + 1) ps by
        rw [Hfe.out, if_neg (fun h => absurd h.1 (by first | decide | exact h7)), if_neg (show ¬ incr ks = false by rw [hks1]; simp [incr])])
      clear hks1
      have hbA0 := Blk.new w 25 #[.int .i64 5, .int .i64 0, str t, .slice Ak ks.length ck, .slice Ap ps.length cp]
      have HbA := Lib.hid hbA0
      clear hbA0
      go_enter Tryz.func42, Tryz.ntmps42
      go_wp2_with fail
      have hW := HW.out
      have hbA := HbA.out
      have hszW : (w.alloc (.cells #[.int .i64 5, .int .i64 0, str t, .slice Ak ks.length ck, .slice Ap ps.length cp] 25)).heap.size = w.heap.size + 1 := by simp
      generalize (w.alloc (.cells #[.int .i64 5, .int .i64 0, str t, .slice Ak ks.length ck, .slice Ap ps.length cp] 25)) = W0 at *
      clear HW HbA
      have hh1w := hh1.below (hW.mono hB)
      have a1 : W0.cell? ⟨w.heap.size, 1, none⟩ = some (.int .i64 0) := hbA.cell 1
      have a3 : W0.cell? ⟨w.heap.size, 3, none⟩ = some (.slice Ak ks.length ck) := hbA.cell 3
      have a4 : W0.cell? ⟨w.heap.size, 4, none⟩ = some (.slice Ap ps.length cp) := hbA.cell 4
      go_loopg [5] ks.length (RfK ks W0)
      case atStart => exact ⟨1, 0, rfl, by omega, .inl rfl, by omega, by simp, rfl⟩
      case round =>
        obtain ⟨i, q, rfl, h1, hi, hgk, hin, rfl⟩ := hrel
        have Hgk := Lib.hid hgk
        have Hin0 := Lib.hid hin
        clear hgk hin
        by_cases hlt : i < ks.length
        · exact absurd (show 0 < ks.length by omega) hksn
        · have Hin := Lib.hid (Hin0.out.trans (incr_end ks (i - 1) (by omega)))
          rw [if_neg (by rw [Hin.out]; simp)] at Hf2
          have hWq : Below w.heap.size w (W0.drewN q) := below_drewN hW q
          have hbAq : Blk (W0.drewN q) w.heap.size 25 #[.int .i64 5, .int .i64 0, str t, .slice Ak ks.length ck, .slice Ap ps.length cp] := hbA
          have hszq : (W0.drewN q).heap.size = w.heap.size + 1 := hszW
          rw [if_neg (by omega)] at Hf2
          go_wp2_with fail
          generalize W0.drewN q = W1 at *
          clear a1 a3 a4 hh1w hbA hW
          go_loopg [106] ps.length (RfP ps (d + 1) W1)
          case atStart => exact ⟨0, rfl, by omega, by omega, by simp, Below.refl _ _⟩
          case round =>
            obtain ⟨j, rfl, hj, hgj, hft, hbw⟩ := hrel
            have Hgj := Lib.hid hgj
            have Hft := Lib.hid hft
            clear hgj hft
            have hwr : Below w.heap.size w wr := hWq.trans (hbw.mono hWq.size)
            have hszr := hwr.size
            by_cases hltp : j < ps.length
            · exact absurd (show 0 < ps.length by omega) hpsn
            · have Hend := Lib.hid (show faults (d + 1) ps = 0 by rw [Hft.out, List.drop_of_length_le (by omega), faults])
              go_wp2_with fail
              go_ret
              exact ⟨by rw [Hf2.out, Hend.out]; rfl, hwr⟩
    by_cases h4 : k = 4
    · subst h4
      by_cases ht0 : t = []
      rotate_left
      · have hb : (t == []) = false := by simpa using ht0
        go_enter Tryz.func42, Tryz.ntmps42
        go_wp2_with fail
        go_ret
        exact ⟨by rw [Hfe.out, if_pos (by simp [unusedB, ht0])]; rfl, HW.out⟩
      subst ht0
      by_cases hks0 : ks.length = 0
      rotate_left
      · have hb : decide ((0 : Int) < (ks.length : Int)) = true := decide_eq_true (by omega)
        have hpos : 0 < ks.length := by omega
        clear hks0
        go_enter Tryz.func42, Tryz.ntmps42
        go_wp2_with fail
        go_ret
        exact ⟨by rw [Hfe.out, if_pos (by unfold unusedB; rw [decide_eq_true hpos]; simp)]; rfl, HW.out⟩
      have hksb : decide ((0 : Int) < (ks.length : Int)) = false := decide_eq_false (by omega)
      have hksn : ¬ 0 < ks.length := by omega
      have Hks0 := Lib.hid hks0
      clear hks0
      by_cases hps0 : ps.length = 0
      rotate_left
      · have hb : decide ((0 : Int) < (ps.length : Int)) = true := decide_eq_true (by omega)
        have hpos : 0 < ps.length := by omega
        clear hps0
        go_enter Tryz.func42, Tryz.ntmps42
        go_wp2_with fail
        go_ret
        exact ⟨by rw [Hfe.out, if_pos (by unfold unusedB; rw [decide_eq_true hpos]; simp)]; rfl, HW.out⟩
      have hpsb : decide ((0 : Int) < (ps.length : Int)) = false := decide_eq_false (by omega)
      have hpsn : ¬ 0 < ps.length := by omega
      clear hps0
      rw [if_neg (by unfold unusedB; rw [decide_eq_false hksn, decide_eq_false hpsn]; simp)] at Hfe
      have hks1 : ks = [] := List.eq_nil_of_length_eq_zero Hks0.out
      have Hf2 := Lib.hid (show fault d (.mk 4 n [] ks ps) = if incr ks = false then 4 else if n ≤ -9007199254740992 ∨ 9007199254740992 ≤ n then 2 else faults (d + 1) ps by
        rw [Hfe.out, if_neg (fun h => absurd h.1 (by first | decide | exact h7)), if_neg (show ¬ incr ks = false by rw [hks1]; simp [incr])])
      clear hks1
      have hbA0 := Blk.new w 25 #[.int .i64 4, .int .i64 n, str [], .slice Ak ks.length ck, .slice Ap ps.length cp]
      have HbA := Lib.hid hbA0
      clear hbA0
      go_enter Tryz.func42, Tryz.ntmps42
      go_wp2_with fail
      have hW := HW.out
      have hbA := HbA.out
      have hszW : (w.alloc (.cells #[.int .i64 4, .int .i64 n, str [], .slice Ak ks.length ck, .slice Ap ps.length cp] 25)).heap.size = w.heap.size + 1 := by simp
      generalize (w.alloc (.cells #[.int .i64 4, .int .i64 n, str [], .slice Ak ks.length ck, .slice Ap ps.length cp] 25)) = W0 at *
      clear HW HbA
      have hh1w := hh1.below (hW.mono hB)
      have a1 : W0.cell? ⟨w.heap.size, 1, none⟩ = some (.int .i64 n) := hbA.cell 1
      have a3 : W0.cell? ⟨w.heap.size, 3, none⟩ = some (.slice Ak ks.length ck) := hbA.cell 3
      have a4 : W0.cell? ⟨w.heap.size, 4, none⟩ = some (.slice Ap ps.length cp) := hbA.cell 4
      go_loopg [5] ks.length (RfK ks W0)
      case atStart => exact ⟨1, 0, rfl, by omega, .inl rfl, by omega, by simp, rfl⟩
      case round =>
        obtain ⟨i, q, rfl, h1, hi, hgk, hin, rfl⟩ := hrel
        have Hgk := Lib.hid hgk
        have Hin0 := Lib.hid hin
        clear hgk hin
        by_cases hlt : i < ks.length
        · exact absurd (show 0 < ks.length by omega) hksn
        · have Hin := Lib.hid (Hin0.out.trans (incr_end ks (i - 1) (by omega)))
          rw [if_neg (by rw [Hin.out]; simp)] at Hf2
          have hWq : Below w.heap.size w (W0.drewN q) := below_drewN hW q
          have hbAq : Blk (W0.drewN q) w.heap.size 25 #[.int .i64 4, .int .i64 n, str [], .slice Ak ks.length ck, .slice Ap ps.length cp] := hbA
          have hszq : (W0.drewN q).heap.size = w.heap.size + 1 := hszW
          by_cases hnr1 : 9007199254740991 < (n : Int)
          · have hnb : decide (9007199254740991 < (n : Int)) = true := decide_eq_true hnr1
            go_wp2_with fail
            go_ret
            exact ⟨by rw [Hf2.out, if_pos (.inr (by omega))]; rfl, hWq⟩
          by_cases hnr2 : (n : Int) < -9007199254740991
          · have hnb : decide (9007199254740991 < (n : Int)) = false := decide_eq_false hnr1
            have hnb2 : decide ((n : Int) < -9007199254740991) = true := decide_eq_true hnr2
            go_wp2_with fail
            go_ret
            exact ⟨by rw [Hf2.out, if_pos (.inl (by omega))]; rfl, hWq⟩
          have hnb : decide (9007199254740991 < (n : Int)) = false := decide_eq_false hnr1
          have hnb2 : decide ((n : Int) < -9007199254740991) = false := decide_eq_false hnr2
          rw [if_neg (by omega)] at Hf2
          go_wp2_with fail
          generalize W0.drewN q = W1 at *
          clear a1 a3 a4 hh1w hnb hnb2 hbA hW
          go_loopg [106] ps.length (RfP ps (d + 1) W1)
          case atStart => exact ⟨0, rfl, by omega, by omega, by simp, Below.refl _ _⟩
          case round =>
            obtain ⟨j, rfl, hj, hgj, hft, hbw⟩ := hrel
            have Hgj := Lib.hid hgj
            have Hft := Lib.hid hft
            clear hgj hft
            have hwr : Below w.heap.size w wr := hWq.trans (hbw.mono hWq.size)
            have hszr := hwr.size
            by_cases hltp : j < ps.length
            · exact absurd (show 0 < ps.length by omega) hpsn
            · have Hend := Lib.hid (show faults (d + 1) ps = 0 by rw [Hft.out, List.drop_of_length_le (by omega), faults])
              go_wp2_with fail
              go_ret
              exact ⟨by rw [Hf2.out, Hend.out]; rfl, hwr⟩
    have g4 : (k != 4) = true := by simpa using h4
    have g5 : (k != 5) = true := by simpa using h5
    have g6 : (k != 6) = true := by simpa using h6
    have g7 : (k != 7) = true := by simpa using h7
    have g7b : (k == 7) = false := by simpa using h7
    by_cases hn0 : n = 0
    rotate_left
    · have hb : (n != 0) = true := by simpa using hn0
      go_enter Tryz.func42, Tryz.ntmps42
      go_wp2_with fail
      go_ret
      exact ⟨by rw [Hfe.out, if_pos (by simp [unusedB, hn0, h4, h5, h6, h7])]; rfl, HW.out⟩
    subst hn0
    by_cases ht0 : t = []
    rotate_left
    · have hb : (t == []) = false := by simpa using ht0
      go_enter Tryz.func42, Tryz.ntmps42
      go_wp2_with fail
      go_ret
      exact ⟨by rw [Hfe.out, if_pos (by simp [unusedB, ht0, h4, h5, h6, h7])]; rfl, HW.out⟩
    subst ht0
    by_cases hks0 : ks.length = 0
    rotate_left
    · have hb : decide ((0 : Int) < (ks.length : Int)) = true := decide_eq_true (by omega)
      have hpos : 0 < ks.length := by omega
      clear hks0
      go_enter Tryz.func42, Tryz.ntmps42
      go_wp2_with fail
      go_ret
      exact ⟨by rw [Hfe.out, if_pos (by unfold unusedB; rw [decide_eq_true hpos]; simp [h4, h5, h6, h7])]; rfl, HW.out⟩
    have hksb : decide ((0 : Int) < (ks.length : Int)) = false := decide_eq_false (by omega)
    have hksn : ¬ 0 < ks.length := by omega
    have Hks0 := Lib.hid hks0
    clear hks0
    by_cases hps0 : ps.length = 0
    rotate_left
    · have hb : decide ((0 : Int) < (ps.length : Int)) = true := decide_eq_true (by omega)
      have hpos : 0 < ps.length := by omega
      clear hps0
      go_enter Tryz.func42, Tryz.ntmps42
      go_wp2_with fail
      go_ret
      exact ⟨by rw [Hfe.out, if_pos (by unfold unusedB; rw [decide_eq_true hpos]; simp [h4, h5, h6, h7])]; rfl, HW.out⟩
    have hpsb : decide ((0 : Int) < (ps.length : Int)) = false := decide_eq_false (by omega)
    have hpsn : ¬ 0 < ps.length := by omega
    clear hps0
    rw [if_neg (by unfold unusedB; rw [decide_eq_false hksn, decide_eq_false hpsn]; simp [h4, h5, h6, h7])] at Hfe
    have hks1 : ks = [] := List.eq_nil_of_length_eq_zero Hks0.out
    have Hf2 := Lib.hid (show fault d (.mk k 0 [] ks ps) = if incr ks = false then 4 else if (0 : Int) ≤ -9007199254740992 ∨ 9007199254740992 ≤ (0 : Int) then 2 else faults (d + 1) ps by
      rw [Hfe.out, if_neg (fun h => absurd h.1 (by first | decide | exact h7)), if_neg (show ¬ incr ks = false by rw [hks1]; simp [incr])])
    clear hks1
    have hbA0 := Blk.new w 25 #[.int .i64 k, .int .i64 0, str [], .slice Ak ks.length ck, .slice Ap ps.length cp]
    have HbA := Lib.hid hbA0
    clear hbA0
    go_enter Tryz.func42, Tryz.ntmps42
    go_wp2_with fail
    have hW := HW.out
    have hbA := HbA.out
    have hszW : (w.alloc (.cells #[.int .i64 k, .int .i64 0, str [], .slice Ak ks.length ck, .slice Ap ps.length cp] 25)).heap.size = w.heap.size + 1 := by simp
    generalize (w.alloc (.cells #[.int .i64 k, .int .i64 0, str [], .slice Ak ks.length ck, .slice Ap ps.length cp] 25)) = W0 at *
    clear HW HbA
    have hh1w := hh1.below (hW.mono hB)
    have a1 : W0.cell? ⟨w.heap.size, 1, none⟩ = some (.int .i64 0) := hbA.cell 1
    have a3 : W0.cell? ⟨w.heap.size, 3, none⟩ = some (.slice Ak ks.length ck) := hbA.cell 3
    have a4 : W0.cell? ⟨w.heap.size, 4, none⟩ = some (.slice Ap ps.length cp) := hbA.cell 4
    go_loopg [5] ks.length (RfK ks W0)
    case atStart => exact ⟨1, 0, rfl, by omega, .inl rfl, by omega, by simp, rfl⟩
    case round =>
      obtain ⟨i, q, rfl, h1, hi, hgk, hin, rfl⟩ := hrel
      have Hgk := Lib.hid hgk
      have Hin0 := Lib.hid hin
      clear hgk hin
      by_cases hlt : i < ks.length
      · exact absurd (show 0 < ks.length by omega) hksn
      · have Hin := Lib.hid (Hin0.out.trans (incr_end ks (i - 1) (by omega)))
        rw [if_neg (by rw [Hin.out]; simp)] at Hf2
        have hWq : Below w.heap.size w (W0.drewN q) := below_drewN hW q
        have hbAq : Blk (W0.drewN q) w.heap.size 25 #[.int .i64 k, .int .i64 0, str [], .slice Ak ks.length ck, .slice Ap ps.length cp] := hbA
        have hszq : (W0.drewN q).heap.size = w.heap.size + 1 := hszW
        rw [if_neg (by omega)] at Hf2
        go_wp2_with fail
        generalize W0.drewN q = W1 at *
        clear a1 a3 a4 hh1w hbA hW
        go_loopg [106] ps.length (RfP ps (d + 1) W1)
        case atStart => exact ⟨0, rfl, by omega, by omega, by simp, Below.refl _ _⟩
        case round =>
          obtain ⟨j, rfl, hj, hgj, hft, hbw⟩ := hrel
          have Hgj := Lib.hid hgj
          have Hft := Lib.hid hft
          clear hgj hft
          have hwr : Below w.heap.size w wr := hWq.trans (hbw.mono hWq.size)
          have hszr := hwr.size
          by_cases hltp : j < ps.length
          · exact absurd (show 0 < ps.length by omega) hpsn
          · have Hend := Lib.hid (show faults (d + 1) ps = 0 by rw [Hft.out, List.drop_of_length_le (by omega), faults])
            go_wp2_with fail
            go_ret
            exact ⟨by rw [Hf2.out, Hend.out]; rfl, hwr⟩
end Go.Proofs.YtbdbcffnjibjoaaGreatDoor

/- The document's own jsonText and JsonFault: what each call returns. -/
namespace Go.Proofs.YtbdbcffnjibjoaaGreatDoor
set_option linter.unusedVariables false
set_option linter.unusedSimpArgs false
open Go.RowKit
attribute [local go_sem high] str_mk

mutual
/-- Its strings are short. -/
def Small : JV → Prop
  | .mk _ n t ks ps => t.length ≤ 1048576 ∧ (∀ s ∈ ks, s.length ≤ 1048576) ∧ (-9223372036854775808 ≤ n ∧ n ≤ 9223372036854775807) ∧ Smalls ps
def Smalls : List JV → Prop
  | [] => True
  | p :: r => Small p ∧ Smalls r
end
mutual
theorem VIn.small {w : World} {B : Nat} : ∀ (v : JV) (cs : List Value), VIn w B v cs → Small v
  | .mk k n t ks ps, cs, h => by
    unfold VIn at h
    obtain ⟨Ak, ck, Ap, cp, pc, _, _, hn, ht, _, _, hkl, _, _, _, _, hp⟩ := h
    unfold Small
    exact ⟨ht, hkl, hn, PIn.small ps pc hp⟩
theorem PIn.small {w : World} {B : Nat} : ∀ (ps : List JV) (pc : List Value), PIn w B ps pc → Smalls ps
  | [], pc, h => by unfold Smalls; trivial
  | p :: r, pc, h => by
    unfold PIn at h
    obtain ⟨c, rest, _, h2, h3⟩ := h
    unfold Smalls
    exact ⟨VIn.small p c h2, PIn.small r rest h3⟩
end
theorem quo_bd (t : List UInt8) (h : t.length ≤ 1048576) : (quo t).length ≤ 6291458 := by
  have := flat_len t
  simp only [quo, List.length_cons, List.length_append, List.length_nil]; omega
mutual
theorem jtext_bd : ∀ v : JV, Small v → (jtext v).length + 6300000 ≤ 13000000 * count v
  | .mk k n t ks ps, h => by
    unfold Small at h
    obtain ⟨h1, h2, h3, h4⟩ := h
    have ha := jarr_bd true ps h4
    have ho := jobj_bd true ks ps h2 h4
    have hq := quo_bd t h1
    have hi := Lib.itoa_length_le n h3.1 h3.2
    rw [jtext, count]
    repeat' split
    all_goals (try simp only [List.length_cons, List.length_append, List.length_nil, tNull, tFalse, tTrue])
    all_goals omega
theorem jarr_bd : ∀ (f : Bool) (ps : List JV), Smalls ps → (jarr f ps).length ≤ 13000000 * counts ps
  | f, [], _ => by simp [jarr]
  | f, p :: r, h => by
    unfold Smalls at h
    have h1 := jtext_bd p h.1
    have h2 := jarr_bd false r h.2
    rw [jarr, counts]
    cases f <;> simp only [sep, List.length_cons, List.length_append, List.length_nil, if_true, if_false, Bool.false_eq_true] <;> omega
theorem jobj_bd : ∀ (f : Bool) (ks : List (List UInt8)) (ps : List JV), (∀ s ∈ ks, s.length ≤ 1048576) → Smalls ps → (jobj f ks ps).length ≤ 13000000 * counts ps
  | f, ks, [], _, _ => by cases ks <;> simp [jobj]
  | f, [], p :: r, _, _ => by simp [jobj]
  | f, k :: ks, p :: r, hk, h => by
    unfold Smalls at h
    have h1 := jtext_bd p h.1
    have h2 := jobj_bd false ks r (fun s hs => hk s (by simp [hs])) h.2
    have h3 := quo_bd k (hk k (by simp))
    rw [jobj, counts]
    cases f <;> simp only [sep, List.length_cons, List.length_append, List.length_nil, if_true, if_false, Bool.false_eq_true] <;> omega
end
theorem jarr_drop (f : Bool) (ps : List JV) (i : Nat) (hi : i < ps.length) : jarr f (ps.drop i) = sep f ++ (jtext ps[i] ++ jarr false (ps.drop (i + 1))) := by
  rw [List.drop_eq_getElem_cons hi, jarr]
theorem jobj_drop (f : Bool) (ks : List (List UInt8)) (ps : List JV) (i : Nat) (hk : i < ks.length) (hp : i < ps.length) :
    jobj f (ks.drop i) (ps.drop i) = sep f ++ (quo ks[i] ++ (58 :: (jtext ps[i] ++ jobj false (ks.drop (i + 1)) (ps.drop (i + 1))))) := by
  rw [List.drop_eq_getElem_cons hk, List.drop_eq_getElem_cons hp, jobj]

theorem box_facts2 {w : World} {g : Nat} {t : TypeId} {a0 a1 a2 a3 a4 : Value} (h : Blk w g t #[a0, a1, a2, a3, a4]) :
    w.cell? ⟨g, 0, none⟩ = some a0 ∧ w.cell? ⟨g, 1, none⟩ = some a1 ∧ w.cell? ⟨g, 2, none⟩ = some a2 ∧ w.cell? ⟨g, 3, none⟩ = some a3 ∧ w.cell? ⟨g, 4, none⟩ = some a4 ∧
    w.frozen? ⟨g, 0, none⟩ = false ∧ w.frozen? ⟨g, 1, none⟩ = false ∧ w.frozen? ⟨g, 2, none⟩ = false ∧ w.frozen? ⟨g, 3, none⟩ = false ∧ w.frozen? ⟨g, 4, none⟩ = false :=
  ⟨h.cell 0, h.cell 1, h.cell 2, h.cell 3, h.cell 4, h.frozen 0, h.frozen 1, h.frozen 2, h.frozen 3, h.frozen 4⟩
theorem count_part2 : ∀ {ps : List JV} (i : Nat) (h : i < ps.length), count ps[i] ≤ counts ps
  | [], i, h => by simp at h
  | p :: r, 0, _ => by simp [counts]
  | p :: r, i + 1, h => by
    have := count_part2 (ps := r) i (by simpa using h)
    simp [counts]; omega
theorem fines_mem2 : ∀ {ps : List JV} {x : JV}, Fines ps → x ∈ ps → Fine x
  | [], x, _, h => by cases h
  | p :: ps, x, hf, h => by
    unfold Fines at hf
    rcases List.mem_cons.1 h with rfl | h
    · exact hf.1
    · exact fines_mem2 hf.2 h
def RtA (T : List UInt8) (F : Bool → Nat → List UInt8) (m : Nat) (w : World) (gk : Nat) (out i : Value) (wr : World) : Prop :=
  ∃ (j : Nat) (o : List UInt8), out = str o ∧ i = .int .i64 j ∧ j ≤ m ∧ gk = m - j ∧ o ++ F (decide (j = 0)) j = T ∧ Below w.heap.size w wr

set_option maxRecDepth 100000 in
set_option maxHeartbeats 4000000 in
theorem refJText_any (f : Nat) : ∀ (v : JV) (cs : List Value) (w : World) (B : Nat), count v ≤ f → count v ≤ 1000000 → Fine v → B ≤ w.heap.size → VIn w B v cs →
    Calls Tryz.prog 36 #[.agg cs.toArray] w fun e w' => e = .returned (str (jtext v)) ∧ Below w.heap.size w w' := by
  induction f with
  | zero => intro v cs w B h; cases v; simp [count] at h
  | succ f ih =>
    intro v cs w B hf hm hfine hB hv
    have hsm := VIn.small _ _ hv
    have hbd := jtext_bd v hsm
    cases v with
    | mk k n t ks ps =>
    unfold Fine at hfine
    obtain ⟨ha, hfs⟩ := hfine
    obtain ⟨_, hk1, hk7, hobj, hn1, hn2, hu⟩ := alone_facts ha
    unfold VIn at hv
    obtain ⟨Ak, ck, Ap, cp, pc, rfl, _, _, ht, hks, hps, hkl, hck, hcp, hh1, hh2, hpin⟩ := hv
    have Hf := Lib.hid hf
    have Hm := Lib.hid hm
    have Hbd := Lib.hid hbd
    have Hobj := Lib.hid hobj
    have Hsm := Lib.hid hsm
    clear hf hbd hobj hm hsm
    have HW := Lib.hid (show Below w.heap.size w (w.alloc (.cells #[.int .i64 k, .int .i64 n, str t, .slice Ak ks.length ck, .slice Ap ps.length cp] 25)) from (Below.refl _ _).alloc (Nat.le_refl _) _)
    rcases (by omega : k = 1 ∨ k = 2 ∨ k = 3 ∨ k = 4 ∨ k = 5 ∨ k = 6 ∨ k = 7) with rfl | rfl | rfl | rfl | rfl | rfl | rfl
    · have H := Lib.hid (show jtext (.mk 1 n t ks ps) = tNull by rw [jtext]; rfl)
      go_enter Tryz.func36, Tryz.ntmps36
      go_wp2_with fail
      go_ret
      exact ⟨by rw [H.out]; rfl, HW.out⟩
    · have H := Lib.hid (show jtext (.mk 2 n t ks ps) = tFalse by rw [jtext]; rfl)
      go_enter Tryz.func36, Tryz.ntmps36
      go_wp2_with fail
      go_ret
      exact ⟨by rw [H.out]; rfl, HW.out⟩
    · have H := Lib.hid (show jtext (.mk 3 n t ks ps) = tTrue by rw [jtext]; rfl)
      go_enter Tryz.func36, Tryz.ntmps36
      go_wp2_with fail
      go_ret
      exact ⟨by rw [H.out]; rfl, HW.out⟩
    · have H := Lib.hid (show jtext (.mk 4 n t ks ps) = Lib.itoa n by rw [jtext]; rfl)
      go_enter Tryz.func36, Tryz.ntmps36
      go_wp2_with fail
      refine (numText_any n _ (by omega) (by omega)).mono ?_
      rintro e w3 ⟨rfl, hb3⟩
      go_wp2_with fail
      go_ret
      exact ⟨by rw [H.out]; rfl, HW.out.trans (hb3.mono HW.out.size)⟩
    · have H := Lib.hid (show jtext (.mk 5 n t ks ps) = quo t by rw [jtext]; rfl)
      go_enter Tryz.func36, Tryz.ntmps36
      go_wp2_with fail
      refine (quoted_any t _ ht).mono ?_
      rintro e w3 ⟨rfl, hb3⟩
      go_wp2_with fail
      go_ret
      exact ⟨by rw [H.out]; rfl, HW.out.trans (hb3.mono HW.out.size)⟩
    · have H := Lib.hid (show jtext (.mk 6 n t ks ps) = 91 :: (jarr true ps ++ [93]) by rw [jtext]; rfl)
      have hbA0 := Blk.new w 25 #[.int .i64 6, .int .i64 n, str t, .slice Ak ks.length ck, .slice Ap ps.length cp]
      have HbA := Lib.hid hbA0
      clear hbA0
      go_enter Tryz.func36, Tryz.ntmps36
      go_wp2_with fail
      have hW := HW.out
      have hbA := HbA.out
      have hszW : (w.alloc (.cells #[.int .i64 6, .int .i64 n, str t, .slice Ak ks.length ck, .slice Ap ps.length cp] 25)).heap.size = w.heap.size + 1 := by simp
      generalize (w.alloc (.cells #[.int .i64 6, .int .i64 n, str t, .slice Ak ks.length ck, .slice Ap ps.length cp] 25)) = W0 at *
      clear HW HbA
      have htot : (jarr true ps).length ≤ 13000000000000 := by
        have h1 := Hbd.out; have h2 := Hm.out
        rw [H.out] at h1
        simp only [List.length_cons, List.length_append] at h1; omega
      have Htot := Lib.hid htot
      clear htot
      go_loopg [3, 27] ps.length (RtA (jarr true ps) (fun b j => jarr b (ps.drop j)) ps.length W0)
      case atStart => exact ⟨0, [], rfl, rfl, by omega, by omega, by simp, Below.refl _ _⟩
      case round =>
        obtain ⟨j, o, rfl, rfl, hj, hgj, ho, hbw⟩ := hrel
        have Hgj := Lib.hid hgj
        have Ho := Lib.hid (show o ++ jarr (decide (j = 0)) (ps.drop j) = jarr true ps from ho)
        have hol : o.length ≤ 13000000000000 := by have h1 := Htot.out; rw [← ho, List.length_append] at h1; omega
        clear hgj ho
        have hwr : Below w.heap.size w wr := hW.trans (hbw.mono hW.size)
        have hszr := hwr.size
        have hbwz := hbw.size
        have hbAr := hbA.below hbw (by omega)
        have a0 : wr.cell? ⟨w.heap.size, 0, none⟩ = some (.int .i64 6) := hbAr.cell 0
        have a3 : wr.cell? ⟨w.heap.size, 3, none⟩ = some (.slice Ak ks.length ck) := hbAr.cell 3
        have hwlt : w.heap.size < wr.heap.size := by omega
        by_cases hlt : j < ps.length
        · obtain ⟨b, off, k2, n2, t2, Ak2, nk2, ck2, Ap2, np2, cp2, rfl, hb, hv, c0, c1, c2, c3, c4⟩ := part_cells (hh2.below (hwr.mono hB)) (hpin.below (hwr.mono hB)) j hlt
          have hd := jarr_drop (decide (j = 0)) ps j hlt
          have hcp1 := count_part2 j hlt
          have hcf : count ps[j] ≤ f := by have := Hf.out; simp only [count] at this; omega
          have hcm : count ps[j] ≤ 1000000 := by have := Hm.out; simp only [count] at this; omega
          have hfp := fines_mem2 hfs (List.getElem_mem hlt)
          have hpart : ∀ W, Below w.heap.size w W → VIn W B ps[j] [.int .i64 k2, .int .i64 n2, str t2, .slice Ak2 nk2 ck2, .slice Ap2 np2 cp2] → Calls Tryz.prog 36 #[.agg #[.int .i64 k2, .int .i64 n2, str t2, .slice Ak2 nk2 ck2, .slice Ap2 np2 cp2]] W fun e w' => e = .returned (str (jtext ps[j])) ∧ Below W.heap.size W w' :=
            fun W hbW hvW => ih ps[j] _ W B hcf hcm hfp (Nat.le_trans hB hbW.size) hvW
          have Hih := Lib.hid hpart
          have Hnew := Lib.hid (show o ++ (sep (decide (j = 0)) ++ jtext ps[j]) ++ jarr false (ps.drop (j + 1)) = jarr true ps by rw [← Ho.out, hd]; simp)
          have hnl : (o ++ (sep (decide (j = 0)) ++ jtext ps[j])).length ≤ 13000000000000 := by
            have h1 := Htot.out; rw [← Hnew.out, List.length_append] at h1; omega
          have hB2 := hwr.alloc hszr (.cells #[.int .i64 k2, .int .i64 n2, str t2, .slice Ak2 nk2 ck2, .slice Ap2 np2 cp2] 25)
          have hbox := Blk.new wr 25 #[.int .i64 k2, .int .i64 n2, str t2, .slice Ak2 nk2 ck2, .slice Ap2 np2 cp2]
          have hv2 : VIn (wr.alloc (.cells #[.int .i64 k2, .int .i64 n2, str t2, .slice Ak2 nk2 ck2, .slice Ap2 np2 cp2] 25)) B ps[j] [.int .i64 k2, .int .i64 n2, str t2, .slice Ak2 nk2 ck2, .slice Ap2 np2 cp2] :=
            VIn.kept (fun p hp => World.cell?_alloc_lt _ _ p (by omega)) _ _ hv
          have hbl2 : Below W0.heap.size W0 (wr.alloc (.cells #[.int .i64 k2, .int .i64 n2, str t2, .slice Ak2 nk2 ck2, .slice Ap2 np2 cp2] 25)) := hbw.alloc hbwz _
          clear hpart hd Ho hcp1 hcf hcm hfp hv hbAr
          generalize jtext ps[j] = X at *
          generalize ps[j] = pj at *
          by_cases hj0 : j = 0
          · subst hj0
            have y0 : wr.cell? ⟨b, off, none⟩ = some (.int .i64 k2) := by simpa using c0
            have y1 : wr.cell? ⟨b, off + 1, none⟩ = some (.int .i64 n2) := by simpa using c1
            have y2 : wr.cell? ⟨b, off + 2, none⟩ = some (str t2) := by simpa using c2
            have y3 : wr.cell? ⟨b, off + 3, none⟩ = some (.slice Ak2 nk2 ck2) := by simpa using c3
            have y4 : wr.cell? ⟨b, off + 4, none⟩ = some (.slice Ap2 np2 cp2) := by simpa using c4
            have d5 := run_str_addL (P := Tryz.prog) 9 o X (by simp [sep] at hnl ⊢; omega)
            go_wp2_with fail
            refine (Hih.out _ hB2 hv2).mono ?_
            rintro e w3 ⟨rfl, hb3⟩
            go_wp2_with fail
            go_roundg (ps.length - 1)
            case measure => have := Hgj.out; omega
            case rel => exact ⟨1, o ++ X, rfl, rfl, by omega, rfl, by show _ ++ jarr (decide (1 = 0)) _ = _; rw [decide_eq_false (by omega)]; have h1 := Hnew.out; simp [sep] at h1 ⊢; exact h1, hbl2.trans (hb3.mono hbl2.size)⟩
          · have hj1 : 0 < j := by omega
            have hj1' : (0 : Int) < (j : Int) := by omega
            have hsepf : sep (decide (j = 0)) = [44] := by rw [decide_eq_false hj0]; rfl
            have Hsepf := Lib.hid hsepf
            rw [hsepf] at hnl
            clear hsepf hj0
            have d4 := run_str_addL (P := Tryz.prog) 9 o [44] (by simp; omega)
            generalize hoc : o ++ [44] = oc at *
            have Hoc := Lib.hid hoc
            have hocl : oc.length + X.length ≤ 14000000000000 := by rw [← hoc]; simp at hnl ⊢; omega
            clear hoc
            have d5 := run_str_addL (P := Tryz.prog) 9 oc X (by omega)
            go_wp2_with fail
            refine (Hih.out _ hB2 hv2).mono ?_
            rintro e w3 ⟨rfl, hb3⟩
            go_wp2_with fail
            go_roundg (ps.length - (j + 1))
            case measure => have := Hgj.out; omega
            case rel => exact ⟨j + 1, oc ++ X, rfl, by go_num, by omega, rfl, by show _ ++ jarr (decide (j + 1 = 0)) _ = _; rw [decide_eq_false (by omega)]; have h1 := Hnew.out; rw [Hsepf.out] at h1; rw [← Hoc.out]; simp at h1 ⊢; exact h1, hbl2.trans (hb3.mono hbl2.size)⟩
        · have Hfin := Lib.hid (show o = jarr true ps by have h1 := Ho.out; rw [List.drop_eq_nil_of_le (by omega)] at h1; simpa [jarr] using h1)
          have d1 := run_str_addL (P := Tryz.prog) 9 [91] o (by simp; omega)
          have d2 := run_str_addL (P := Tryz.prog) 9 ([91] ++ o) [93] (by simp; omega)
          generalize hz1 : ([91] ++ o ++ [93] : List UInt8) = z1 at *
          generalize hz2 : ([91] ++ o : List UInt8) = z2 at *
          have Hz1 := Lib.hid hz1
          have Hz2 := Lib.hid hz2
          clear hz1 hz2
          go_wp2_with fail
          go_ret
          exact ⟨by rw [H.out, ← Hz1.out, ← Hz2.out, Hfin.out]; simp, hwr⟩
    · have H := Lib.hid (show jtext (.mk 7 n t ks ps) = 123 :: (jobj true ks ps ++ [125]) by rw [jtext]; rfl)
      have hbA0 := Blk.new w 25 #[.int .i64 7, .int .i64 n, str t, .slice Ak ks.length ck, .slice Ap ps.length cp]
      have HbA := Lib.hid hbA0
      clear hbA0
      obtain ⟨hkp, _⟩ := Hobj.out rfl
      have Hkp := Lib.hid hkp
      clear hkp
      go_enter Tryz.func36, Tryz.ntmps36
      go_wp2_with fail
      have hW := HW.out
      have hbA := HbA.out
      have hszW : (w.alloc (.cells #[.int .i64 7, .int .i64 n, str t, .slice Ak ks.length ck, .slice Ap ps.length cp] 25)).heap.size = w.heap.size + 1 := by simp
      generalize (w.alloc (.cells #[.int .i64 7, .int .i64 n, str t, .slice Ak ks.length ck, .slice Ap ps.length cp] 25)) = W0 at *
      clear HW HbA
      have htot : (jobj true ks ps).length ≤ 13000000000000 := by
        have h1 := Hbd.out; have h2 := Hm.out
        rw [H.out] at h1
        simp only [List.length_cons, List.length_append] at h1; omega
      have Htot := Lib.hid htot
      clear htot
      go_loopg [3, 27] ps.length (RtA (jobj true ks ps) (fun b j => jobj b (ks.drop j) (ps.drop j)) ps.length W0)
      case atStart => exact ⟨0, [], rfl, rfl, by omega, by omega, by simp, Below.refl _ _⟩
      case round =>
        obtain ⟨j, o, rfl, rfl, hj, hgj, ho, hbw⟩ := hrel
        have Hgj := Lib.hid hgj
        have Ho := Lib.hid (show o ++ jobj (decide (j = 0)) (ks.drop j) (ps.drop j) = jobj true ks ps from ho)
        have hol : o.length ≤ 13000000000000 := by have h1 := Htot.out; rw [← ho, List.length_append] at h1; omega
        clear hgj ho
        have hwr : Below w.heap.size w wr := hW.trans (hbw.mono hW.size)
        have hszr := hwr.size
        have hbwz := hbw.size
        have hbAr := hbA.below hbw (by omega)
        have a0 : wr.cell? ⟨w.heap.size, 0, none⟩ = some (.int .i64 7) := hbAr.cell 0
        have a3 : wr.cell? ⟨w.heap.size, 3, none⟩ = some (.slice Ak ks.length ck) := hbAr.cell 3
        have hwlt : w.heap.size < wr.heap.size := by omega
        by_cases hlt : j < ps.length
        · obtain ⟨b, off, k2, n2, t2, Ak2, nk2, ck2, Ap2, np2, cp2, rfl, hb, hv, c0, c1, c2, c3, c4⟩ := part_cells (hh2.below (hwr.mono hB)) (hpin.below (hwr.mono hB)) j hlt
          have hltk : j < ks.length := by have := Hkp.out; omega
          obtain ⟨bk, offk, hlk, rfl, hbk, hck2⟩ := (hh1.below (hwr.mono hB)).str hltk
          have hkl1 := hkl _ (List.getElem_mem hltk)
          have hbkl : bk < wr.heap.size := by omega
          have hjk9 : (j : Int) < (ks.length : Int) := by omega
          have hd := jobj_drop (decide (j = 0)) ks ps j hltk hlt
          have hcp1 := count_part2 j hlt
          have hcf : count ps[j] ≤ f := by have := Hf.out; simp only [count] at this; omega
          have hcm : count ps[j] ≤ 1000000 := by have := Hm.out; simp only [count] at this; omega
          have hfp := fines_mem2 hfs (List.getElem_mem hlt)
          have hpart : ∀ W, Below w.heap.size w W → VIn W B ps[j] [.int .i64 k2, .int .i64 n2, str t2, .slice Ak2 nk2 ck2, .slice Ap2 np2 cp2] → Calls Tryz.prog 36 #[.agg #[.int .i64 k2, .int .i64 n2, str t2, .slice Ak2 nk2 ck2, .slice Ap2 np2 cp2]] W fun e w' => e = .returned (str (jtext ps[j])) ∧ Below W.heap.size W w' :=
            fun W hbW hvW => ih ps[j] _ W B hcf hcm hfp (Nat.le_trans hB hbW.size) hvW
          have Hih := Lib.hid hpart
          have Hnew := Lib.hid (show o ++ (sep (decide (j = 0)) ++ (quo ks[j] ++ ([58] ++ jtext ps[j]))) ++ jobj false (ks.drop (j + 1)) (ps.drop (j + 1)) = jobj true ks ps by rw [← Ho.out, hd]; simp)
          have hnl : (o ++ (sep (decide (j = 0)) ++ (quo ks[j] ++ ([58] ++ jtext ps[j])))).length ≤ 13000000000000 := by
            have h1 := Htot.out; rw [← Hnew.out, List.length_append] at h1; omega
          have hB2 := hwr.alloc hszr (.cells #[.int .i64 k2, .int .i64 n2, str t2, .slice Ak2 nk2 ck2, .slice Ap2 np2 cp2] 25)
          have hbox := Blk.new wr 25 #[.int .i64 k2, .int .i64 n2, str t2, .slice Ak2 nk2 ck2, .slice Ap2 np2 cp2]
          have hv2 : VIn (wr.alloc (.cells #[.int .i64 k2, .int .i64 n2, str t2, .slice Ak2 nk2 ck2, .slice Ap2 np2 cp2] 25)) B ps[j] [.int .i64 k2, .int .i64 n2, str t2, .slice Ak2 nk2 ck2, .slice Ap2 np2 cp2] :=
            VIn.kept (fun p hp => World.cell?_alloc_lt _ _ p (by omega)) _ _ hv
          have hbl2 : Below W0.heap.size W0 (wr.alloc (.cells #[.int .i64 k2, .int .i64 n2, str t2, .slice Ak2 nk2 ck2, .slice Ap2 np2 cp2] 25)) := hbw.alloc hbwz _
          clear hpart hd Ho hcp1 hcf hcm hfp hv hbAr
          generalize jtext ps[j] = X at *
          generalize ps[j] = pj at *
          generalize hQ : quo ks[j] = Q at *
          generalize ks[j] = key at *
          have HQ := Lib.hid hQ
          clear hQ
          have hbx2 := hbA.below hbl2 (by omega)
          have hbox2 := hbox
          by_cases hj0 : j = 0
          · subst hj0
            have y0 : wr.cell? ⟨b, off, none⟩ = some (.int .i64 k2) := by simpa using c0
            have y1 : wr.cell? ⟨b, off + 1, none⟩ = some (.int .i64 n2) := by simpa using c1
            have y2 : wr.cell? ⟨b, off + 2, none⟩ = some (str t2) := by simpa using c2
            have y3 : wr.cell? ⟨b, off + 3, none⟩ = some (.slice Ak2 nk2 ck2) := by simpa using c3
            have y4 : wr.cell? ⟨b, off + 4, none⟩ = some (.slice Ap2 np2 cp2) := by simpa using c4
            have yk : wr.cell? ⟨bk, offk, none⟩ = some (str key) := by simpa using hck2
            have d1 := run_str_addL (P := Tryz.prog) 9 Q [58] (by simp [sep] at hnl ⊢; omega)
            have d2 := run_str_addL (P := Tryz.prog) 9 o (Q ++ [58]) (by simp [sep] at hnl ⊢; omega)
            have d3 := run_str_addL (P := Tryz.prog) 9 (o ++ (Q ++ [58])) X (by simp [sep] at hnl ⊢; omega)
            generalize hq2 : o ++ (Q ++ [58]) = oq at *
            generalize hq1 : Q ++ [58] = q1 at *
            have Hq2 := Lib.hid hq2
            have Hq1 := Lib.hid hq1
            clear hq1 hq2
            go_wp2_with fail
            refine (quoted_any key _ hkl1).mono ?_
            rintro e w3 ⟨rfl, hb3⟩
            rw [HQ.out]
            have hw3 := hB2.trans (hb3.mono hB2.size)
            have hbl3 := hbl2.trans (hb3.mono hbl2.size)
            have hbox3 := hbox.below hb3 (by simp)
            obtain ⟨r0, r1, r2, r3, r4, _, _, _, _, _⟩ := box_facts2 hbox3
            have hv3 := hv2.below (hb3.mono (by simp; omega))
            go_wp2_with fail
            refine (Hih.out _ hw3 hv3).mono ?_
            rintro e w4 ⟨rfl, hb4⟩
            go_wp2_with fail
            go_roundg (ps.length - 1)
            case measure => have := Hgj.out; omega
            case rel => exact ⟨1, oq ++ X, rfl, rfl, by omega, rfl, by show _ ++ jobj (decide (1 = 0)) _ _ = _; rw [decide_eq_false (by omega)]; have h1 := Hnew.out; rw [← Hq2.out, ← Hq1.out]; simp [sep] at h1 ⊢; exact h1, hbl3.trans (hb4.mono hbl3.size)⟩
          · have hj1 : 0 < j := by omega
            have hj1' : (0 : Int) < (j : Int) := by omega
            have hsepf : sep (decide (j = 0)) = [44] := by rw [decide_eq_false hj0]; rfl
            have Hsepf := Lib.hid hsepf
            rw [hsepf] at hnl
            clear hsepf hj0
            have d4 := run_str_addL (P := Tryz.prog) 9 o [44] (by simp; omega)
            generalize hoc : o ++ [44] = oc at *
            have Hoc := Lib.hid hoc
            have hnl' : oc.length + (Q.length + (1 + X.length)) ≤ 13000000000000 := by rw [← hoc]; simp at hnl ⊢; omega
            clear hoc
            have d1 := run_str_addL (P := Tryz.prog) 9 Q [58] (by simp; omega)
            have d2 := run_str_addL (P := Tryz.prog) 9 oc (Q ++ [58]) (by simp; omega)
            have d3 := run_str_addL (P := Tryz.prog) 9 (oc ++ (Q ++ [58])) X (by simp; omega)
            generalize hq2 : oc ++ (Q ++ [58]) = oq at *
            generalize hq1 : Q ++ [58] = q1 at *
            have Hq2 := Lib.hid hq2
            have Hq1 := Lib.hid hq1
            clear hq1 hq2
            go_wp2_with fail
            refine (quoted_any key _ hkl1).mono ?_
            rintro e w3 ⟨rfl, hb3⟩
            rw [HQ.out]
            have hw3 := hB2.trans (hb3.mono hB2.size)
            have hbl3 := hbl2.trans (hb3.mono hbl2.size)
            have hbox3 := hbox.below hb3 (by simp)
            obtain ⟨r0, r1, r2, r3, r4, _, _, _, _, _⟩ := box_facts2 hbox3
            have hv3 := hv2.below (hb3.mono (by simp; omega))
            go_wp2_with fail
            refine (Hih.out _ hw3 hv3).mono ?_
            rintro e w4 ⟨rfl, hb4⟩
            go_wp2_with fail
            go_roundg (ps.length - (j + 1))
            case measure => have := Hgj.out; omega
            case rel => exact ⟨j + 1, oq ++ X, rfl, by go_num, by omega, rfl, by show _ ++ jobj (decide (j + 1 = 0)) _ _ = _; rw [decide_eq_false (by omega)]; have h1 := Hnew.out; rw [Hsepf.out] at h1; rw [← Hq2.out, ← Hq1.out, ← Hoc.out]; simp at h1 ⊢; exact h1, hbl3.trans (hb4.mono hbl3.size)⟩
        · have Hfin := Lib.hid (show o = jobj true ks ps by have h1 := Ho.out; rw [List.drop_eq_nil_of_le (show ps.length ≤ j by omega)] at h1; simpa [jobj] using h1)
          have d1 := run_str_addL (P := Tryz.prog) 9 [123] o (by simp; omega)
          have d2 := run_str_addL (P := Tryz.prog) 9 ([123] ++ o) [125] (by simp; omega)
          generalize hz1 : ([123] ++ o ++ [125] : List UInt8) = z1 at *
          generalize hz2 : ([123] ++ o : List UInt8) = z2 at *
          have Hz1 := Lib.hid hz1
          have Hz2 := Lib.hid hz2
          clear hz1 hz2
          go_wp2_with fail
          go_ret
          exact ⟨by rw [H.out, ← Hz1.out, ← Hz2.out, Hfin.out]; simp, hwr⟩
end Go.Proofs.YtbdbcffnjibjoaaGreatDoor

/- The document's own JsonFault and JsonText: what each call returns. -/
namespace Go.Proofs.YtbdbcffnjibjoaaGreatDoor
set_option linter.unusedVariables false
set_option linter.unusedSimpArgs false
open Go.RowKit
attribute [local go_sem high] str_mk
theorem counts_one (v : JV) : counts [v] = count v := by simp [counts]

set_option maxRecDepth 100000 in
set_option maxHeartbeats 4000000 in
theorem refCheck_any (v : JV) (cs : List Value) (w : World) (B : Nat) (hB : B ≤ w.heap.size) (hv : VIn w B v cs) (hcnt : count v ≤ 4611686018427387904) :
    Calls Tryz.prog 20 #[.agg cs.toArray] w fun e w' => e = .returned (.int .i64 (checkN v)) ∧ Below w.heap.size w w' := by
  obtain ⟨k, n, t, Ak, nk, ck, Ap, np, cp, rfl⟩ : ∃ k n t Ak nk ck Ap np cp, cs = [.int .i64 k, .int .i64 n, str t, .slice Ak nk ck, .slice Ap np cp] := by
    cases v; unfold VIn at hv; obtain ⟨Ak, ck, Ap, cp, pc, rfl, _⟩ := hv; exact ⟨_, _, _, _, _, _, _, _, _, rfl⟩
  have Hc := Lib.hid (show checkN v = if fault 0 v ≠ 0 then fault 0 v else if 100 < count v ∨ 600 < (jtext v).length then 1 else 0 from rfl)
  have hW : Below w.heap.size w (w.alloc (.cells #[.int .i64 k, .int .i64 n, str t, .slice Ak nk ck, .slice Ap np cp] 25)) := (Below.refl _ _).alloc (Nat.le_refl _) _
  have hbA := Blk.new w 25 #[.int .i64 k, .int .i64 n, str t, .slice Ak nk ck, .slice Ap np cp]
  have hv1 : VIn (w.alloc (.cells #[.int .i64 k, .int .i64 n, str t, .slice Ak nk ck, .slice Ap np cp] 25)) B v [.int .i64 k, .int .i64 n, str t, .slice Ak nk ck, .slice Ap np cp] := VIn.kept (fun p hp => World.cell?_alloc_lt _ _ p (by omega)) _ _ hv
  have hsz1 : (w.alloc (.cells #[.int .i64 k, .int .i64 n, str t, .slice Ak nk ck, .slice Ap np cp] 25)).heap.size = w.heap.size + 1 := by simp
  have HW := Lib.hid hW
  have HbA := Lib.hid hbA
  have Hv1 := Lib.hid hv1
  have Hsz1 := Lib.hid hsz1
  clear hW hbA hv1 hsz1
  go_enter Tryz.func20, Tryz.ntmps20
  go_wp2_with fail
  have hW := HW.out
  have hbA := HbA.out
  have hv1 := Hv1.out
  have hsz1 := Hsz1.out
  generalize (w.alloc (.cells #[.int .i64 k, .int .i64 n, str t, .slice Ak nk ck, .slice Ap np cp] 25)) = W0 at *
  clear HW HbA Hv1 Hsz1
  refine (refFault_any 7 v 0 _ W0 B (by omega) (by omega) (by omega) hv1).mono ?_
  rintro e w1 ⟨rfl, hb1⟩
  have hw1 := hW.trans (hb1.mono hW.size)
  have hz1 := hb1.size
  have hbA1 := hbA.below hb1 (by omega)
  have hv2 := hv1.below (hb1.mono (by omega))
  by_cases hf : fault 0 v = 0
  rotate_left
  · have Hf := Lib.hid (show checkN v = fault 0 v by rw [Hc.out, if_pos hf])
    clear Hc
    generalize fault 0 v = a at *
    have hab : (a != 0) = true := by simpa using hf
    go_wp2_with fail
    go_ret
    exact ⟨by rw [Hf.out]; rfl, hw1⟩
  have Hfine := Lib.hid (fine_of 0 v hf)
  have Hc2 := Lib.hid (show checkN v = if 100 < count v ∨ 600 < (jtext v).length then 1 else 0 by rw [Hc.out, if_neg (by simpa using hf)])
  rw [hf]
  clear Hc hf hbA hv1
  obtain ⟨c0, c1, c2, c3, c4, _, _, _, _, _⟩ := box_facts2 hbA1
  have hw2 := hw1.alloc hw1.size (.cells #[.int .i64 k, .int .i64 n, str t, .slice Ak nk ck, .slice Ap np cp] 25)
  have hbN := Blk.new w1 25 #[.int .i64 k, .int .i64 n, str t, .slice Ak nk ck, .slice Ap np cp]
  have hbA2 := hbA1.alloc (.cells #[.int .i64 k, .int .i64 n, str t, .slice Ak nk ck, .slice Ap np cp] 25)
  have hv3 : VIn (w1.alloc (.cells #[.int .i64 k, .int .i64 n, str t, .slice Ak nk ck, .slice Ap np cp] 25)) B v [.int .i64 k, .int .i64 n, str t, .slice Ak nk ck, .slice Ap np cp] := VIn.kept (fun p hp => World.cell?_alloc_lt _ _ p (by omega)) _ _ hv2
  have hsz2 : (w1.alloc (.cells #[.int .i64 k, .int .i64 n, str t, .slice Ak nk ck, .slice Ap np cp] 25)).heap.size = w1.heap.size + 1 := by simp
  have hh : Holds (w1.alloc (.cells #[.int .i64 k, .int .i64 n, str t, .slice Ak nk ck, .slice Ap np cp] 25)) (w1.heap.size + 1) 5 (some ⟨w1.heap.size, 0, none⟩) [v].length [.int .i64 k, .int .i64 n, str t, .slice Ak nk ck, .slice Ap np cp] :=
    ⟨rfl, fun _ => ⟨w1.heap.size, 0, rfl, by omega, fun j u hu => by rw [Nat.zero_add, hbN.cell j]; simpa using hu⟩⟩
  have hpi : PIn (w1.alloc (.cells #[.int .i64 k, .int .i64 n, str t, .slice Ak nk ck, .slice Ap np cp] 25)) (w1.heap.size + 1) [v] [.int .i64 k, .int .i64 n, str t, .slice Ak nk ck, .slice Ap np cp] := by
    unfold PIn
    exact ⟨_, [], rfl, VIn.wider (by omega) _ _ hv3, by unfold PIn; rfl⟩
  have Hcount := Lib.hid (refCount_any (counts [v]) [v] _ _ 1 _ _ (Nat.le_refl _) (by rw [counts_one]; exact hcnt) (by rw [hsz2]; exact Nat.le_refl _) hh hpi)
  rw [counts_one] at Hcount
  have Hw2 := Lib.hid hw2
  have HbA2 := Lib.hid hbA2
  have Hv3 := Lib.hid hv3
  have Hsz2 := Lib.hid hsz2
  clear hh hpi hbN hv2 hw2 hbA2 hv3 hsz2
  go_wp2_with fail
  refine Hcount.out.mono ?_
  rintro e w3 ⟨rfl, hb3⟩
  have hw3 := Hw2.out.trans (hb3.mono Hw2.out.size)
  have hz3 := hb3.size
  rw [Hsz2.out] at hz3
  have hbA3 := HbA2.out.below hb3 (by rw [Hsz2.out]; omega)
  have hv4 := Hv3.out.below (hb3.mono (by rw [Hsz2.out]; omega))
  by_cases h100 : 100 < count v
  · have h100b : decide ((100 : Int) < (count v : Int)) = true := decide_eq_true (by omega)
    go_wp2_with fail
    go_ret
    exact ⟨by rw [Hc2.out, if_pos (.inl h100)]; rfl, hw3⟩
  have h100b : decide ((100 : Int) < (count v : Int)) = false := decide_eq_false (by omega)
  have hcle : count v ≤ 100 := by omega
  obtain ⟨d0, d1, d2, d3, d4, _, _, _, _, _⟩ := box_facts2 hbA3
  clear c0 c1 c2 c3 c4
  go_wp2_with fail
  refine (refJText_any 100 v _ w3 B hcle (by omega) Hfine.out (by omega) hv4).mono ?_
  rintro e w4 ⟨rfl, hb4⟩
  have hw4 := hw3.trans (hb4.mono hw3.size)
  by_cases h600 : 600 < (jtext v).length
  · have h6b : decide ((600 : Int) < ((jtext v).length : Int)) = true := decide_eq_true (by omega)
    generalize jtext v = T at *
    go_wp2_with fail
    go_ret
    exact ⟨by rw [Hc2.out, if_pos (.inr h600)]; rfl, hw4⟩
  · have h6b : decide ((600 : Int) < ((jtext v).length : Int)) = false := decide_eq_false (by omega)
    generalize jtext v = T at *
    go_wp2_with fail
    go_ret
    exact ⟨by rw [Hc2.out, if_neg (by rintro (h | h); exact h100 h; exact h600 h)]; rfl, hw4⟩

end Go.Proofs.YtbdbcffnjibjoaaGreatDoor
