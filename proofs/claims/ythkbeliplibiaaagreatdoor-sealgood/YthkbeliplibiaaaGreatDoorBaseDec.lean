/- base.decode and base.Bytes: what each call returns. -/
import Derived.Test.YthkbeliplibiaaaGreatDoorBaseEnc
import Derived.Test.YthkbeliplibiaaaGreatDoorBunE
namespace Go.Proofs.YthkbeliplibiaaaGreatDoor
set_option linter.unusedVariables false
set_option linter.unusedSimpArgs false
set_option maxRecDepth 100000
open Go.RowKit
attribute [local go_sem high] fold_digits run_index_digits

theorem run_idx (c : Int) (w : World) : (callFunc 116 #[.string digits64, .int .u8 c]).run Tryz.prog w = .ok (.value (.int .i64 (firstIdx digits64 c.toNat.toUInt8))) w := by
  rw [run_callFunc_extern (e := Extern.BytealgIndexByte.indexByte) Tryz.func116 (by kernel_rfl) (by kernel_rfl) (by kernel_rfl) (by kernel_rfl), run_indexByte_string]
  rfl
/-- The place of a digit, or -1. -/
def b64place (c : UInt8) : Int := firstIdx digits64 c
theorem b64place_some (c : UInt8) (d : Nat) (h : dval c = some d) : b64place c = d := by unfold b64place; rw [firstIdx_digits, h]
theorem b64place_none (c : UInt8) (h : dval c = none) : b64place c = -1 := by unfold b64place; rw [firstIdx_digits, h]
theorem b64idx_any (c : UInt8) (w : World) :
    Calls Tryz.prog 102 #[.string digits64, .int .u8 (c.toNat : Int)] w fun e w' => e = .returned (.int .i64 (b64place c)) ∧ w = w' := by
  have hx : ∀ W, (callFunc 116 #[.string digits64, .int .u8 (c.toNat : Int)]).run Tryz.prog W = .ok (.value (.int .i64 (b64place c))) W := by
    intro W
    rw [run_idx]
    simp [b64place]
  go_enter Tryz.func102, Tryz.ntmps102
  go_wp2
  go_ret
  exact ⟨rfl, rfl⟩

def DecRel (w : World) (s : List UInt8) (gk : Nat) (b h n i : Value) (wr : World) : Prop :=
  ∃ (k held m : Nat) (bs : List UInt8), i = .int .i64 k ∧ k ≤ s.length ∧ gk = s.length - k ∧ h = .int .i64 held ∧ n = .int .i64 m ∧ (m = 0 ∨ m = 2 ∨ m = 4 ∨ m = 6) ∧ held < 2 ^ m ∧
    wr.ownsRow w.heap.size 5 1 b bs.length (bs.map bv) ∧ Below w.heap.size w wr ∧ (dec held m (s.drop k)).map (bs ++ ·) = dec 0 0 s ∧ bs.length ≤ k

/-- What decode hands back. -/
def Decoded (w : World) (s : List UInt8) (e : Ending) (w' : World) : Prop :=
  Below w.heap.size w w' ∧ ((dec 0 0 s = none ∧ e = .returned (.tuple #[.slice none 0 0, .bool false])) ∨
    ∃ l A c, dec 0 0 s = some l ∧ e = .returned (.tuple #[.slice A l.length c, .bool true]) ∧ w'.ownsRow w.heap.size 5 1 (.slice A l.length c) l.length (l.map bv) ∧ l.length ≤ s.length)

theorem u8_of (I : Int) (m : Nat) (h : I = m) (_hm : m < 256) : Value.int .u8 I = bv (UInt8.ofNat m) := by
  subst h; simp [bv, UInt8.toNat_ofNat', Nat.mod_eq_of_lt _hm]

set_option maxHeartbeats 2000000 in
theorem decode_any (s : List UInt8) (w : World) (hs : s.length ≤ 1200) : Calls Tryz.prog 87 #[str s] w (Decoded w s) := by
  obtain ⟨i0, hi0, hz0, hz1, hz2⟩ := info_parts info_byte
  go_enter Tryz.func87, Tryz.ntmps87
  go_wp2
  go_loopg [4, 5, 6, 11] s.length (DecRel w s)
  case atStart => exact ⟨0, 0, 0, [], rfl, by omega, by omega, rfl, rfl, .inl rfl, by decide, World.ownsRow_nil _ _ _ _, Below.refl _ _, by simp, by simp⟩
  case round =>
    obtain ⟨k, h, m, bs, rfl, hk, hgk, rfl, rfl, hm, hh, hown, hbl, hdec, hbs⟩ := hrel
    have hz : w.heap.size ≤ wr.heap.size := hbl.size
    have hm6 : m ≤ 6 := by omega
    have hh64 : h < 64 := Nat.lt_of_lt_of_le hh (show 2 ^ m ≤ 2 ^ 6 from Nat.pow_le_pow_right (by decide) hm6)
    have Hm := Lib.hid hm
    have Hd := Lib.hid hdec
    have Hgk := Lib.hid hgk
    clear hm hdec hgk
    by_cases hlt : k < s.length
    · have hdr : s.drop k = s[k] :: s.drop (k + 1) := List.drop_eq_getElem_cons hlt
      have hix := fun W => run_index_str (P := Tryz.prog) W 9 s .i64 k Tryz.underlying9 hlt
      have Hdr := Lib.hid hdr
      clear hdr
      generalize s[k] = c at *
      go_wp2_with fail
      refine (b64idx_any c _).mono ?_
      rintro e w1 ⟨rfl, rfl⟩
      clear hix
      cases hc : dval c with
      | none =>
        have hp := b64place_none c hc
        rw [hp]
        have Hn := Lib.hid (show dec 0 0 s = none by rw [← Hd.out, Hdr.out, dec_cons_none _ _ _ _ hc]; rfl)
        clear hp hc
        go_wp2
        go_ret2
        exact ⟨hbl, .inl ⟨Hn.out, rfl⟩⟩
      | some d =>
        have hp := b64place_some c d hc
        obtain ⟨hd64, _⟩ := dgt_of_dval c d hc
        rw [hp]
        have Hc := Lib.hid hc
        clear hp hc
        have hor : bits .or .i64 ((h : Int) * 64) (d : Int) = ((h * 64 + d : Nat) : Int) := or_low h d 6 (by omega) (by omega)
        by_cases h8 : 8 ≤ m + 6
        · have hm2 : 2 ≤ m := by omega
          have hv : h * 64 + d < 256 * 2 ^ (m - 2) := by
            have h1 : 2 ^ m = 4 * 2 ^ (m - 2) := by rw [show m = (m - 2) + 2 from by omega, Nat.pow_add]; simp [Nat.mul_comm]
            omega
          have hq : (h * 64 + d) / 2 ^ (m - 2) < 256 := Nat.div_lt_of_lt_mul (by rw [Nat.mul_comm (2 ^ (m - 2))]; exact hv)
          have hcast : ((h : Int) * 64 + (d : Int)) / 2 ^ (m - 2) = (((h * 64 + d) / 2 ^ (m - 2) : Nat) : Int) := by simp
          have hb0 : (0 : Int) ≤ ((h : Int) * 64 + (d : Int)) / 2 ^ (m - 2) := by rw [hcast]; exact Int.natCast_nonneg _
          have hb1 : ((h : Int) * 64 + (d : Int)) / 2 ^ (m - 2) ≤ 255 := by rw [hcast]; exact Int.ofNat_le.2 (show _ ≤ 255 from Nat.le_of_lt_succ hq)
          have Hu := Lib.hid (u8_of _ _ hcast hq)
          clear hcast
          have hlen : bs.length + 1 ≤ 1048576 := by omega
          have Hc2 := Lib.hid (show (m : Int) + 6 - 8 = ((m - 2 : Nat) : Int) by omega)
          have hc3 : h * 64 + d < 65536 := by omega
          have Hc4 := Lib.hid (show m - 2 = 0 ∨ m - 2 = 2 ∨ m - 2 = 4 ∨ m - 2 = 6 by have := Hm.out; omega)
          go_wp2_with (first
            | (at_builtin
               refine wpList_append1 wr rfl _ _ _ rfl w.heap.size 5 i0 _ 1 Tryz.underlying48 hi0 hz0 hz1 hz2 rfl _ bs.length _ (by rfl) hown _ (by rfl) rfl hlen (by decide) hz ?_
               intro v1 w1 hown1 hg1 _
               rw [Hu.out] at hown1)
            | (go_at_call 97
               refine (lowest_at _ _ (h * 64 + d) (m - 2) _ (by simp) Hc2.out hc3 Hc4.out).mono ?_
               rintro e w2 ⟨rfl, rfl⟩))
          go_roundg (s.length - (k + 1))
          case measure => have := Hgk.out; omega
          case rel =>
            refine ⟨k + 1, (h * 64 + d) % 2 ^ (m - 2), m - 2, bs ++ [UInt8.ofNat ((h * 64 + d) / 2 ^ (m - 2))], by go_num, by omega, rfl, rfl, by rw [← Hc2.out], Hc4.out, Nat.mod_lt _ (Nat.two_pow_pos _), by simpa using hown1, below_own hbl hg1 hown (Nat.le_refl _) hz, ?_, by simp; omega⟩
            rw [← Hd.out, Hdr.out, dec_cons_far h m d _ _ Hc.out h8]
            cases dec ((h * 64 + d) % 2 ^ (m - 2)) (m - 2) (s.drop (k + 1)) <;> simp
        · obtain rfl : m = 0 := by have := Hm.out; omega
          go_wp2
          go_roundg (s.length - (k + 1))
          case measure => have := Hgk.out; omega
          case rel =>
            exact ⟨k + 1, h * 64 + d, 6, bs, by go_num, by omega, rfl, by go_num, rfl, by omega, by simp at hh; omega, hown, hbl, by rw [← Hd.out, Hdr.out, dec_cons_near h 0 d _ _ Hc.out h8], by omega⟩
    · have Hkn := Lib.hid (show s.drop k = [] from List.drop_eq_nil_of_le (by omega))
      obtain ⟨A', c', rfl, hA'⟩ := own_form hown
      by_cases hb : 6 ≤ m
      · have Hn := Lib.hid (show dec 0 0 s = none by rw [← Hd.out, Hkn.out]; simp [dec, hb])
        go_wp2
        go_ret2
        exact ⟨hbl, .inl ⟨Hn.out, rfl⟩⟩
      · by_cases hh0 : h = 0
        · subst hh0
          have Hn := Lib.hid (show dec 0 0 s = some bs by rw [← Hd.out, Hkn.out]; simp [dec, hb])
          go_wp2
          go_ret2
          exact ⟨hbl, .inr ⟨bs, A', c', Hn.out, rfl, hown, by omega⟩⟩
        · have Hn := Lib.hid (show dec 0 0 s = none by rw [← Hd.out, Hkn.out]; simp [dec, hh0])
          have hne : ((h : Int) != 0) = true := by rw [bne_iff_ne]; omega
          go_wp2
          go_ret2
          exact ⟨hbl, .inl ⟨Hn.out, rfl⟩⟩

/-- What base.Bytes hands back: the bytes whose encoding is s, or ErrForm. -/
def Bytesed (w : World) (s : List UInt8) (e : Ending) (w' : World) : Prop :=
  Below w.heap.size w w' ∧ ((dec 0 0 s = none ∧ e = .returned (.tuple #[.slice none 0 0, .int .i64 4])) ∨
    ∃ l A c, dec 0 0 s = some l ∧ e = .returned (.tuple #[.slice A l.length c, .int .i64 0]) ∧ w'.ownsRow w.heap.size 5 1 (.slice A l.length c) l.length (l.map bv) ∧ l.length ≤ s.length)
theorem bytes_small (s : List UInt8) (w : World) (hs : s.length ≤ 1200) : Calls Tryz.prog 59 #[str s] w (Bytesed w s) := by
  go_enter Tryz.func59, Tryz.ntmps59
  go_wp2_with fail
  refine (decode_any s _ hs).mono ?_
  rintro e w1 ⟨hb, ⟨hd, rfl⟩ | ⟨l, A, c, hd, rfl, hown, hl⟩⟩
  · have Hd := Lib.hid hd
    clear hd
    go_wp2
    go_ret2
    exact ⟨hb, .inl ⟨Hd.out, rfl⟩⟩
  · have Hd := Lib.hid hd
    clear hd
    go_wp2
    go_ret2
    exact ⟨hb, .inr ⟨l, A, c, Hd.out, rfl, hown, hl⟩⟩
theorem bytes_big (s : List UInt8) (w : World) (hs : 1200 < s.length) : Calls Tryz.prog 59 #[str s] w fun e w' => e = .returned (.tuple #[.slice none 0 0, .int .i64 1]) ∧ w = w' := by
  go_enter Tryz.func59, Tryz.ntmps59
  go_wp2
  go_ret2
  exact ⟨rfl, rfl⟩
end Go.Proofs.YthkbeliplibiaaaGreatDoor
