/- The document's own numText and jsonQuoted: what each call returns. -/
import Derived.Test.YtikjpniobihanaaDoorBunA
import Derived.Test.YtikjpniobihanaaDoorRows
import Derived.Laws.Concat
import Derived.WalkSmall
import Derived.Outline
namespace Go.Proofs.YtikjpniobihanaaDoor
set_option linter.unusedVariables false
set_option linter.unusedSimpArgs false
open Go.RowKit

theorem run_str_addL {P : Program} (t : TypeId) (a b : List UInt8) (h : a.length + b.length ≤ 9223372036854775807) : ∀ W, (binOp .add t (str a) (str b)).run P W = .ok (str (a ++ b)) W := fun W => by
  simp only [str, binOp_string_add]
  rw [run_string_add_sum W _ _ (by show a.length + b.length ≤ _; exact h), ByteArray.mk_append_mk]
/-- The string of bytes that have just been laid in a block. -/
theorem run_conv_new {P : Program} (w : World) (src dst e : TypeId) (hs : P.underlying src = some (.slice e)) (he : P.underlying e = some (.int .u8)) (hd : P.underlying dst = some .string) (l : List UInt8) (t : TypeId) (n : Nat) (hn : n = l.length) (cs : Array Value) (hcs : cs = (l.map bv).toArray) :
    (convert src dst (.slice (some ⟨w.heap.size, 0, none⟩) n n)).run P (w.alloc (.cells cs t)) = .ok (str l) (w.alloc (.cells cs t)) := by
  subst hn hcs
  refine run_convert_bytes (B := w.heap.size + 1) src dst e hs he hd ⟨by simp, fun _ => ⟨w.heap.size, 0, rfl, by omega, fun j u hu => ?_⟩⟩ (fun h => by cases h)
  rw [Nat.zero_add, (Blk.new w t _).cell j]
  simpa using hu

theorem itoa_small (n : Nat) (h : n < 10) : Lib.itoa (n : Int) = [UInt8.ofNat (48 + n)] := by
  unfold Lib.itoa; rw [if_neg (by omega)]
  simp [Lib.decDigits, h]
theorem itoa_big (n : Nat) (h : ¬ n < 10) : Lib.itoa (n : Int) = Lib.itoa ((n / 10 : Nat) : Int) ++ Lib.itoa ((n % 10 : Nat) : Int) := by
  rw [itoa_small (n % 10) (by omega)]
  unfold Lib.itoa
  rw [if_neg (by omega), if_neg (by omega)]
  simp only [Int.toNat_natCast]
  rw [Lib.decDigits, dif_neg h]
theorem itoa_minus (n : Nat) (h : 0 < n) : Lib.itoa (-(n : Int)) = [45] ++ Lib.itoa (n : Int) := by
  unfold Lib.itoa
  rw [if_pos (by omega), if_neg (by omega)]
  simp
theorem itoa_len20 (n : Int) (h0 : -9007199254740992 ≤ n) (h1 : n ≤ 9007199254740992) : (Lib.itoa n).length ≤ 21 := Lib.itoa_length_le n (by omega) (by omega)

attribute [local go_sem high] str_mk
set_option maxRecDepth 100000 in
set_option maxHeartbeats 1000000 in
theorem numText_nat : ∀ (f n : Nat) (w : World), n ≤ 9007199254740992 → n ≤ f →
    Calls Tryd.prog 50 #[.int .i64 (n : Int)] w fun e w' => e = .returned (str (Lib.itoa n)) ∧ Below w.heap.size w w' := by
  intro f
  induction f with
  | zero =>
    intro n w h1 hf
    obtain rfl : n = 0 := by omega
    have hcv := fun W => run_conv_new (P := Tryd.prog) W 61 9 5 Tryd.underlying61 Tryd.underlying5 Tryd.underlying9 [48] 5 1 rfl #[.int .u8 48] rfl
    go_enter Tryd.func50, Tryd.ntmps50
    go_wp2_with fail
    go_ret
    exact ⟨by rw [itoa_small 0 (by omega)]; rfl, (Below.refl _ _).alloc (Nat.le_refl _) _⟩
  | succ f ih =>
    intro n w h1 hf
    by_cases h10 : n < 10
    · obtain ⟨c, hc⟩ : ∃ c : UInt8, UInt8.ofNat (48 + n) = c := ⟨_, rfl⟩
      have hi := itoa_small n h10
      have hcn : (c.toNat : Int) = 48 + (n : Int) := by rw [← hc, UInt8.toNat_ofNat']; omega
      rw [hc] at hi
      have H := Lib.hid hi
      have hcv := fun W => run_conv_new (P := Tryd.prog) W 61 9 5 Tryd.underlying61 Tryd.underlying5 Tryd.underlying9 [c] 5 1 rfl #[.int .u8 (48 + (n : Int))] (by
        simp [bv, hcn])
      clear hc hi hcn
      have hb : (48 + (n : Int)) % 256 = 48 + (n : Int) := by omega
      have hi10 : (n : Int) < 10 := by omega
      go_enter Tryd.func50, Tryd.ntmps50
      go_wp2_with fail
      go_ret
      exact ⟨by rw [H.out]; rfl, (Below.refl _ _).alloc (Nat.le_refl _) _⟩
    · have H := Lib.hid (itoa_big n h10)
      have l1 := itoa_len20 ((n / 10 : Nat) : Int) (by omega) (by omega)
      have l2 := itoa_len20 ((n % 10 : Nat) : Int) (by omega) (by omega)
      have hadd := run_str_addL (P := Tryd.prog) 9 (Lib.itoa ((n / 10 : Nat) : Int)) (Lib.itoa ((n % 10 : Nat) : Int)) (by omega)
      have Hih1 := Lib.hid (fun W => ih (n / 10) W (by omega) (by omega))
      have Hih2 := Lib.hid (fun W => ih (n % 10) W (by omega) (by omega))
      have hi10 : ¬ (n : Int) < 10 := by omega
      have E1 := Lib.hid (show ((n / 10 : Nat) : Int) = (n : Int) / 10 by omega)
      have E2 := Lib.hid (show ((n % 10 : Nat) : Int) = (n : Int) % 10 by omega)
      rw [E1.out] at Hih1
      rw [E2.out] at Hih2
      rw [E1.out, E2.out] at H hadd
      clear l1 l2
      generalize Lib.itoa ((n : Int) / 10) = a at *
      generalize Lib.itoa ((n : Int) % 10) = b at *
      go_enter Tryd.func50, Tryd.ntmps50
      go_wp2_with fail
      refine (Hih1.out _).mono ?_
      rintro e w1 ⟨rfl, hb1⟩
      go_wp2_with fail
      refine (Hih2.out _).mono ?_
      rintro e w2 ⟨rfl, hb2⟩
      go_wp2_with fail
      go_ret
      exact ⟨by rw [H.out]; rfl, hb1.trans (hb2.mono hb1.size)⟩
set_option maxRecDepth 100000 in
theorem numText_any (n : Int) (w : World) (h0 : -9007199254740992 ≤ n) (h1 : n ≤ 9007199254740992) :
    Calls Tryd.prog 50 #[.int .i64 n] w fun e w' => e = .returned (str (Lib.itoa n)) ∧ Below w.heap.size w w' := by
  by_cases hneg : n < 0
  · obtain ⟨u, rfl⟩ : ∃ u : Nat, n = -(u : Int) := ⟨n.natAbs, by omega⟩
    have H := Lib.hid (itoa_minus u (by omega))
    have l1 := itoa_len20 (u : Int) (by omega) (by omega)
    have hadd := run_str_addL (P := Tryd.prog) 9 [45] (Lib.itoa (u : Int)) (by simp; omega)
    have Hih := Lib.hid (fun W => numText_nat u u W (by omega) (Nat.le_refl _))
    have hu : 0 < u := by omega
    clear l1
    generalize Lib.itoa (u : Int) = a at *
    go_enter Tryd.func50, Tryd.ntmps50
    go_wp2_with fail
    refine (Hih.out _).mono ?_
    rintro e w1 ⟨rfl, hb1⟩
    go_wp2_with fail
    go_ret
    exact ⟨by rw [H.out]; rfl, hb1⟩
  · obtain ⟨u, rfl⟩ : ∃ u : Nat, n = u := ⟨n.toNat, by omega⟩
    exact numText_nat u u w (by omega) (Nat.le_refl _)

/-! ### quoted strings -/
theorem flat_take (s : List UInt8) (i : Nat) (hi : i < s.length) : (s.take (i + 1)).flatMap esc = (s.take i).flatMap esc ++ esc s[i] := by
  rw [List.take_succ_eq_append_getElem hi, List.flatMap_append]; simp
def QuoR (s : List UInt8) (w : World) (gk : Nat) (out i : Value) (wr : World) : Prop :=
  ∃ (k : Nat) (o : List UInt8), out = str o ∧ i = .int .i64 k ∧ k ≤ s.length ∧ gk = s.length - k ∧ o = 34 :: (s.take k).flatMap esc ∧ Below w.heap.size w wr
theorem flat_len (s : List UInt8) : (s.flatMap esc).length ≤ 6 * s.length := by
  induction s with
  | nil => simp
  | cons c s ih => have := esc_le c; rw [List.flatMap_cons, List.length_append, List.length_cons]; omega
theorem hex_cut (d : Nat) (h : d < 16) : (([48, 49, 50, 51, 52, 53, 54, 55, 56, 57, 97, 98, 99, 100, 101, 102] : List UInt8).drop d).take 1 = [hexD d] := by
  have : ∀ j : Fin 16, (([48, 49, 50, 51, 52, 53, 54, 55, 56, 57, 97, 98, 99, 100, 101, 102] : List UInt8).drop j.val).take 1 = [hexD j.val] := by decide +kernel
  exact this ⟨d, h⟩
theorem byte_eq (c : UInt8) (d : Nat) (hd : d < 256) : ((c.toNat : Int) == (d : Int)) = decide (c = UInt8.ofNat d) := by
  rw [Bool.eq_iff_iff]
  simp
  constructor
  · intro h; apply UInt8.toNat_inj.1; simp; omega
  · rintro rfl; simp; omega

set_option maxRecDepth 100000 in
set_option maxHeartbeats 4000000 in
theorem quoted_any (s : List UInt8) (w : World) (hs : s.length ≤ 1048576) :
    Calls Tryd.prog 51 #[str s] w fun e w' => e = .returned (str (quo s)) ∧ Below w.heap.size w w' := by
  go_enter Tryd.func51, Tryd.ntmps51
  go_wp2_with fail
  go_loopg [3, 4] s.length (QuoR s w)
  case atStart => exact ⟨0, [34], rfl, rfl, by omega, by omega, by simp, Below.refl _ _⟩
  case round =>
    obtain ⟨k, o, rfl, rfl, hk, hgk, ho, hbw⟩ := hrel
    have Hgk := Lib.hid hgk
    have Ho := Lib.hid ho
    have hol : o.length ≤ 6291460 := by
      have h1 := flat_len (s.take k)
      rw [ho, List.length_cons]
      rw [List.length_take] at h1
      omega
    clear hgk ho
    by_cases hlt : k < s.length
    · have hidx := fun W => run_index_str (P := Tryd.prog) W 9 s .i64 k Tryd.underlying9 hlt
      have hft := flat_take s k hlt
      generalize s[k] = c at *
      have Hft := Lib.hid hft
      clear hft
      have hc256 := c.toNat_lt
      have rel : ∀ (o' : List UInt8) (wr' : World), o' = o ++ esc c → Below wr.heap.size wr wr' → QuoR s w (s.length - (k + 1)) (str o') (.int .i64 ((k : Int) + 1)) wr' := by
        intro o' wr' h1 h2
        refine ⟨k + 1, o', rfl, rfl, by omega, rfl, ?_, hbw.trans (h2.mono hbw.size)⟩
        rw [h1, Ho.out, Hft.out]; simp
      have Hrel := Lib.hid rel
      clear rel
      have gen : ∀ d : Nat, d < 256 → c ≠ UInt8.ofNat d → ((c.toNat : Int) == (d : Int)) = false := fun d hd h => by rw [byte_eq c d hd]; exact decide_eq_false h
      have Gen := Lib.hid gen
      clear gen
      by_cases h34 : c = 34
      · subst h34
        have hcv := fun W => run_conv_new (P := Tryd.prog) W 61 9 5 Tryd.underlying61 Tryd.underlying5 Tryd.underlying9 [92, 34] 5 2 rfl #[.int .u8 92, .int .u8 34] rfl
        have hadd := run_str_addL (P := Tryd.prog) 9 o [92, 34] (by simp; omega)
        go_wp2_with fail
        go_roundg (s.length - (k + 1))
        case measure => have := Hgk.out; omega
        case rel => exact Hrel.out _ _ rfl ((Below.refl _ _).alloc (Nat.le_refl _) _)
      by_cases h92 : c = 92
      · subst h92
        have hcv := fun W => run_conv_new (P := Tryd.prog) W 61 9 5 Tryd.underlying61 Tryd.underlying5 Tryd.underlying9 [92, 92] 5 2 rfl #[.int .u8 92, .int .u8 92] rfl
        have hadd := run_str_addL (P := Tryd.prog) 9 o [92, 92] (by simp; omega)
        go_wp2_with fail
        go_roundg (s.length - (k + 1))
        case measure => have := Hgk.out; omega
        case rel => exact Hrel.out _ _ rfl ((Below.refl _ _).alloc (Nat.le_refl _) _)
      by_cases h8 : c = 8
      · subst h8
        have hadd := run_str_addL (P := Tryd.prog) 9 o [92, 98] (by simp; omega)
        go_wp2_with fail
        go_roundg (s.length - (k + 1))
        case measure => have := Hgk.out; omega
        case rel => exact Hrel.out _ _ rfl (Below.refl _ _)
      by_cases h9 : c = 9
      · subst h9
        have hadd := run_str_addL (P := Tryd.prog) 9 o [92, 116] (by simp; omega)
        go_wp2_with fail
        go_roundg (s.length - (k + 1))
        case measure => have := Hgk.out; omega
        case rel => exact Hrel.out _ _ rfl (Below.refl _ _)
      by_cases h10 : c = 10
      · subst h10
        have hadd := run_str_addL (P := Tryd.prog) 9 o [92, 110] (by simp; omega)
        go_wp2_with fail
        go_roundg (s.length - (k + 1))
        case measure => have := Hgk.out; omega
        case rel => exact Hrel.out _ _ rfl (Below.refl _ _)
      by_cases h12 : c = 12
      · subst h12
        have hadd := run_str_addL (P := Tryd.prog) 9 o [92, 102] (by simp; omega)
        go_wp2_with fail
        go_roundg (s.length - (k + 1))
        case measure => have := Hgk.out; omega
        case rel => exact Hrel.out _ _ rfl (Below.refl _ _)
      by_cases h13 : c = 13
      · subst h13
        have hadd := run_str_addL (P := Tryd.prog) 9 o [92, 114] (by simp; omega)
        go_wp2_with fail
        go_roundg (s.length - (k + 1))
        case measure => have := Hgk.out; omega
        case rel => exact Hrel.out _ _ rfl (Below.refl _ _)
      have g34 : ((c.toNat : Int) == 34) = false := Gen.out 34 (by omega) h34
      have g92 : ((c.toNat : Int) == 92) = false := Gen.out 92 (by omega) h92
      have g8 : ((c.toNat : Int) == 8) = false := Gen.out 8 (by omega) h8
      have g9 : ((c.toNat : Int) == 9) = false := Gen.out 9 (by omega) h9
      have g10 : ((c.toNat : Int) == 10) = false := Gen.out 10 (by omega) h10
      have g12 : ((c.toNat : Int) == 12) = false := Gen.out 12 (by omega) h12
      have g13 : ((c.toNat : Int) == 13) = false := Gen.out 13 (by omega) h13
      have he : esc c = if c.toNat < 32 then [92, 117, 48, 48, hexD (c.toNat / 16), hexD (c.toNat % 16)] else [c] := by
        unfold esc
        rw [if_neg h34, if_neg h92, if_neg h8, if_neg h9, if_neg h10, if_neg h12, if_neg h13]
      clear h34 h92 h8 h9 h10 h12 h13 Gen
      by_cases h32 : c.toNat < 32
      · rw [if_pos h32] at he
        have He := Lib.hid he
        clear he
        have h32b : decide ((c.toNat : Int) < 32) = true := by simp; omega
        obtain ⟨d1, hd1⟩ : ∃ d1 : Nat, c.toNat / 16 = d1 := ⟨_, rfl⟩
        obtain ⟨d2, hd2⟩ : ∃ d2 : Nat, c.toNat % 16 = d2 := ⟨_, rfl⟩
        have e1 : (c.toNat : Int) / 16 = (d1 : Int) := by omega
        have e2 : (c.toNat : Int) % 16 = (d2 : Int) := by omega
        rw [hd1, hd2] at He
        have hs1 : ∀ W, (Instr.slice 9 (str [48, 49, 50, 51, 52, 53, 54, 55, 56, 57, 97, 98, 99, 100, 101, 102]) (some (.int .u8 (d1 : Int))) none none).run Tryd.prog W = .ok (str (([48, 49, 50, 51, 52, 53, 54, 55, 56, 57, 97, 98, 99, 100, 101, 102] : List UInt8).drop d1)) W :=
          fun W => run_str_l (P := Tryd.prog) W 9 Tryd.underlying9 [48, 49, 50, 51, 52, 53, 54, 55, 56, 57, 97, 98, 99, 100, 101, 102] .u8 (d1 : Int) d1 rfl (by simp; omega)
        have hs2 : ∀ W, (Instr.slice 9 (str (([48, 49, 50, 51, 52, 53, 54, 55, 56, 57, 97, 98, 99, 100, 101, 102] : List UInt8).drop d1)) none (some (.int .i64 1)) none).run Tryd.prog W = .ok (str [hexD d1]) W :=
          fun W => by rw [run_str_h (P := Tryd.prog) W 9 Tryd.underlying9 _ .i64 1 1 rfl (by simp; omega), hex_cut d1 (by omega)]
        have hs3 : ∀ W, (Instr.slice 9 (str [48, 49, 50, 51, 52, 53, 54, 55, 56, 57, 97, 98, 99, 100, 101, 102]) (some (.int .u8 (d2 : Int))) none none).run Tryd.prog W = .ok (str (([48, 49, 50, 51, 52, 53, 54, 55, 56, 57, 97, 98, 99, 100, 101, 102] : List UInt8).drop d2)) W :=
          fun W => run_str_l (P := Tryd.prog) W 9 Tryd.underlying9 [48, 49, 50, 51, 52, 53, 54, 55, 56, 57, 97, 98, 99, 100, 101, 102] .u8 (d2 : Int) d2 rfl (by simp; omega)
        have hs4 : ∀ W, (Instr.slice 9 (str (([48, 49, 50, 51, 52, 53, 54, 55, 56, 57, 97, 98, 99, 100, 101, 102] : List UInt8).drop d2)) none (some (.int .i64 1)) none).run Tryd.prog W = .ok (str [hexD d2]) W :=
          fun W => by rw [run_str_h (P := Tryd.prog) W 9 Tryd.underlying9 _ .i64 1 1 rfl (by simp; omega), hex_cut d2 (by omega)]
        clear hd1 hd2
        generalize ([48, 49, 50, 51, 52, 53, 54, 55, 56, 57, 97, 98, 99, 100, 101, 102] : List UInt8).drop d1 = D1 at *
        generalize ([48, 49, 50, 51, 52, 53, 54, 55, 56, 57, 97, 98, 99, 100, 101, 102] : List UInt8).drop d2 = D2 at *
        generalize hexD d1 = x1 at *
        generalize hexD d2 = x2 at *
        have c1 := run_str_addL (P := Tryd.prog) 9 [92, 117, 48, 48] [x1] (by simp)
        have c2 := run_str_addL (P := Tryd.prog) 9 ([92, 117, 48, 48] ++ [x1]) [x2] (by simp)
        have c3 := run_str_addL (P := Tryd.prog) 9 o ([92, 117, 48, 48] ++ [x1] ++ [x2]) (by simp; omega)
        generalize hz : ([92, 117, 48, 48] ++ [x1] ++ [x2] : List UInt8) = z at *
        generalize hy : ([92, 117, 48, 48] ++ [x1] : List UInt8) = y at *
        have Hz := Lib.hid hz
        have Hy := Lib.hid hy
        clear hz hy
        go_wp2_with fail
        go_quiet (fail)
        go_wp2_with fail
        go_roundg (s.length - (k + 1))
        case measure => have := Hgk.out; omega
        case rel => exact Hrel.out _ _ (by rw [He.out, ← Hz.out, ← Hy.out]; rfl) (below_drewN (Below.refl _ _) _)
      · rw [if_neg h32] at he
        have He := Lib.hid he
        clear he
        have h32b : decide ((c.toNat : Int) < 32) = false := by simp; omega
        have h32c : ¬ (c.toNat : Int) < 32 := by omega
        have hcv := fun W => run_conv_new (P := Tryd.prog) W 61 9 5 Tryd.underlying61 Tryd.underlying5 Tryd.underlying9 [c] 5 1 rfl #[.int .u8 (c.toNat : Int)] rfl
        have hadd := run_str_addL (P := Tryd.prog) 9 o [c] (by simp; omega)
        go_wp2_with fail
        go_roundg (s.length - (k + 1))
        case measure => have := Hgk.out; omega
        case rel => exact Hrel.out _ _ (by rw [He.out]) ((Below.refl _ _).alloc (Nat.le_refl _) _)
    · have Hfin := Lib.hid (show o ++ [34] = quo s by rw [Ho.out, List.take_of_length_le (by omega)]; simp [quo])
      have hadd := run_str_addL (P := Tryd.prog) 9 o [34] (by simp; omega)
      rw [Hfin.out] at hadd
      go_wp2_with fail
      go_ret
      exact ⟨rfl, hbw⟩
end Go.Proofs.YtikjpniobihanaaDoor
