/- base.lowest, base.encode and base.Text: what each call returns. -/
import Derived.Test.YtbdbcffnjibjoaaGreatDoorRows
import Derived.Test.YtbdbcffnjibjoaaGreatDoorBunA
import Derived.Test.YtbdbcffnjibjoaaGreatDoorBunE
namespace Go.Proofs.YtbdbcffnjibjoaaGreatDoor
set_option linter.unusedVariables false
set_option linter.unusedSimpArgs false
open Go.RowKit

theorem info_byte : (Tryz.prog.info? 5).map (fun i => (i.zero, i.size, i.bytes)) = some (some (.int .u8 0), 1, 1) := by kernel_rfl

theorem fold_digits : (⟨#[65, 66, 67, 68, 69, 70, 71, 72, 73, 74, 75, 76, 77, 78, 79, 80, 81, 82, 83, 84, 85, 86, 87, 88, 89, 90, 97, 98, 99, 100, 101, 102, 103, 104, 105, 106, 107, 108, 109, 110, 111, 112, 113, 114, 115, 116, 117, 118, 119, 120, 121, 122, 48, 49, 50, 51, 52, 53, 54, 55, 56, 57, 43, 47]⟩ : ByteArray) = digits64 := rfl
theorem run_index_digits {P : Program} (w : World) (t : TypeId) (k : IntKind) (i : Int) (h : P.underlying t = some .string) (h0 : 0 ≤ i) (h1 : i < 64) :
    (Instr.index t (.string digits64) (.int k i)).run P w = .ok (.int .u8 (dgtV i)) w := by
  have hi : 0 ≤ i ∧ i < (digits64.size : Int) := by rw [digits64_size]; omega
  have h2 : i.toNat < digits64.size := by rw [digits64_size]; omega
  rw [run_index_string w t digits64 k i h, dif_pos hi]
  have h3 : i.toNat < digitsOf.length := h2
  have : (digits64[i.toNat]'h2) = dgt i.toNat := by
    have e1 : (digits64[i.toNat]'h2) = digitsOf[i.toNat] := rfl
    rw [e1]
    simp [dgt, List.getD, List.getElem?_eq_getElem h3]
  simp only [this, dgtV]
attribute [local go_sem high] fold_digits run_index_digits

theorem ret_int {k : IntKind} {a b : Int} (h : a = b) : Ending.returned (.int k a) = .returned (.int k b) := by rw [h]

theorem lowest_at (N K : Int) (n k : Nat) (w : World) (hN : N = n) (hK : K = k) (h1 : n < 65536) (b1 : k = 0 ∨ k = 2 ∨ k = 4 ∨ k = 6) :
    Calls Tryz.prog 80 #[.int .i64 N, .int .i64 K] w fun e w' => e = .returned (.int .i64 ((n % 2 ^ k : Nat) : Int)) ∧ w = w' := by
  subst hN hK
  rcases b1 with rfl | rfl | rfl | rfl
  · have Hb := Lib.hid (show bits .and .i64 (n : Int) 0 = ((n % 2 ^ 0 : Nat) : Int) from and_low n 0 (by omega) (by omega))
    go_enter Tryz.func80, Tryz.ntmps80
    go_wp2
    go_ret
    exact ⟨ret_int Hb.out, rfl⟩
  · have Hb := Lib.hid (show bits .and .i64 (n : Int) 3 = ((n % 2 ^ 2 : Nat) : Int) from and_low n 2 (by omega) (by omega))
    go_enter Tryz.func80, Tryz.ntmps80
    go_wp2
    go_ret
    exact ⟨ret_int Hb.out, rfl⟩
  · have Hb := Lib.hid (show bits .and .i64 (n : Int) 15 = ((n % 2 ^ 4 : Nat) : Int) from and_low n 4 (by omega) (by omega))
    go_enter Tryz.func80, Tryz.ntmps80
    go_wp2
    go_ret
    exact ⟨ret_int Hb.out, rfl⟩
  · have Hb := Lib.hid (show bits .and .i64 (n : Int) 63 = ((n % 2 ^ 6 : Nat) : Int) from and_low n 6 (by omega) (by omega))
    go_enter Tryz.func80, Tryz.ntmps80
    go_wp2
    go_ret
    exact ⟨ret_int Hb.out, rfl⟩

theorem dgtV_nat (I : Int) (m : Nat) (h : I = m) : Value.int .u8 (dgtV I) = bv (dgt m) := by subst h; rfl
theorem shr_lt (h n : Nat) (hh : h < 2 ^ n) (hn : 6 ≤ n) : h / 2 ^ (n - 6) < 64 := by
  have : 2 ^ n = 64 * 2 ^ (n - 6) := by rw [show n = (n - 6) + 6 from by omega, Nat.pow_add]; simp [Nat.mul_comm]
  exact Nat.div_lt_of_lt_mul (by rw [Nat.mul_comm, ← this]; exact hh)
theorem pow_le12 (h n : Nat) (hh : h < 2 ^ n) (hn : n ≤ 12) : h < 4096 := Nat.lt_of_lt_of_le hh (Nat.pow_le_pow_right (by decide) hn)

/-- What holds at the inner loop's head: ts: the digits that are written; T: all of them; r: the bytes to come. -/
def EncIn (w : World) (T : List Nat) (r : List UInt8) (gk : Nat) (t h b : Value) (wr : World) : Prop :=
  ∃ (held n : Nat) (ts : List Nat), h = .int .i64 held ∧ b = .int .i64 n ∧ gk = n ∧ (n = 0 ∨ n = 2 ∨ n = 4 ∨ n = 6 ∨ n = 8 ∨ n = 10 ∨ n = 12) ∧ held < 2 ^ n ∧
    wr.ownsRow w.heap.size 5 1 t ts.length ((ts.map dgt).map bv) ∧ Below w.heap.size w wr ∧ ts ++ encN held n r = T

def EncOut (w : World) (l : List UInt8) (gk : Nat) (t h b i : Value) (wr : World) : Prop :=
  ∃ k : Nat, i = .int .i64 k ∧ k ≤ l.length ∧ gk = l.length - k ∧
  ∃ (held n : Nat) (ts : List Nat), h = .int .i64 held ∧ b = .int .i64 n ∧ (n = 0 ∨ n = 2 ∨ n = 4) ∧ held < 2 ^ n ∧
    wr.ownsRow w.heap.size 5 1 t ts.length ((ts.map dgt).map bv) ∧ Below w.heap.size w wr ∧ ts ++ encN held n (l.drop k) = b64 l

set_option maxRecDepth 100000 in
set_option maxHeartbeats 1000000 in
theorem encode_any (A : Option Addr) (n c : Nat) (l : List UInt8) (w : World) (hr : Holds w w.heap.size 1 A n (l.map bv)) (hl : n ≤ 600) :
    Calls Tryz.prog 59 #[.slice A n c] w fun e w' => e = .returned (str (enc l)) ∧ Below w.heap.size w w' := by
  have hn := hr.len
  obtain ⟨i0, hi0, hz0, hz1, hz2⟩ := info_parts info_byte
  have HL := Lib.hid hn
  have hle : l.length ≤ n := by omega
  have hge : n ≤ l.length := by omega
  clear hn
  go_enter Tryz.func59, Tryz.ntmps59
  go_wp2
  go_loopg [3, 4, 5, 10] n (EncOut w l)
  case atStart => exact ⟨0, rfl, by omega, by omega, 0, 0, [], rfl, rfl, .inl rfl, by decide, World.ownsRow_nil _ _ _ _, Below.refl _ _, by simp [encN, encS_b64]⟩
  case round =>
    obtain ⟨k, rfl, hk, hgk, held, m, ts, rfl, rfl, hm, hh, hown, hbl, hts⟩ := hrel
    have hnd : n ≤ l.length := hge
    by_cases hlt : k < n
    · obtain ⟨b, off, hkl, rfl, hb, hc⟩ := hr.byte hlt
      have hcr : wr.cell? ⟨b, off + k, none⟩ = some (.int .u8 (l[k].toNat : Int)) := (hbl.cell (p := ⟨b, off + k, none⟩) hb).trans hc
      have hc8 : l[k].toNat < 256 := l[k].toNat_lt
      have hh16 : held < 16 := Nat.lt_of_lt_of_le hh ((show 2 ^ m ≤ 2 ^ 4 from Nat.pow_le_pow_right (by decide) (by omega)))
      have hor : bits .or .i64 ((held : Int) * 256) (l[k].toNat : Int) = ((held * 256 + l[k].toNat : Nat) : Int) := or_low held l[k].toNat 8 hc8 (by omega)
      have hm4 : m ≤ 4 := by omega
      have Hm := Lib.hid hm
      have Hts := Lib.hid hts
      have Hgk := Lib.hid hgk
      clear hts hm hgk hc
      generalize hcb : l[k].toNat = cb at *
      have Hcb := Lib.hid hcb
      clear hcb
      go_wp2
      clear hcr
      go_loopg [3, 4, 5] (m + 8) (EncIn w (b64 l) (l.drop (k + 1)))
      case atStart =>
        have hd : l.drop k = l[k] :: l.drop (k + 1) := (List.drop_eq_getElem_cons hkl)
        refine ⟨held * 256 + cb, m + 8, ts, rfl, by simp, rfl, by have := Hm.out; omega, ?_, hown, hbl, ?_⟩
        · have := Hm.out
          rcases this with rfl | rfl | rfl <;> omega
        · rw [← Hts.out, hd, encN_byte held m l[k] _ Hm.out hh, Hcb.out]
      case round =>
        clear hown hbl Hts
        obtain ⟨held', n', ts', rfl, rfl, hg', hn', hh', hown, hbl, hts⟩ := hrel
        have hz : w.heap.size ≤ wr.heap.size := hbl.size
        have hp12 : held' < 4096 := pow_le12 held' n' hh' (by omega)
        have hbl12 : n' ≤ 12 := by omega
        have Hn := Lib.hid hn'
        have Ht := Lib.hid hts
        have hgle : n' ≤ gk := by omega
        have Hg := Lib.hid hg'
        clear hn' hts hg'
        by_cases h6 : 6 ≤ n'
        · have hq := shr_lt held' n' hh' h6
          have hqc : (held' : Int) / 2 ^ (n' - 6) = ((held' / 2 ^ (n' - 6) : Nat) : Int) := by simp
          have hq0 : (0 : Int) ≤ (held' : Int) / 2 ^ (n' - 6) := by rw [hqc]; exact Int.natCast_nonneg _
          have hq1 : (held' : Int) / 2 ^ (n' - 6) < 64 := by rw [hqc]; exact Int.ofNat_lt.2 hq
          have hu := dgtV_nat _ _ hqc
          have Hu := Lib.hid hu
          clear hqc hu
          have hlen : ts'.length + 1 ≤ 1048576 := by
            have h1 := congrArg List.length Ht.out
            rw [List.length_append, b64_length] at h1
            omega
          have hc2 : (n' : Int) - 6 = ((n' - 6 : Nat) : Int) := by omega
          have Hc2 := Lib.hid hc2
          clear hc2
          have hc3 : held' < 65536 := by omega
          have Hc4 := Lib.hid (show n' - 6 = 0 ∨ n' - 6 = 2 ∨ n' - 6 = 4 ∨ n' - 6 = 6 by have := Hn.out; omega)
          go_wp2_with (first
            | (at_builtin
               go_loud (refine wpList_append1 wr rfl _ _ _ rfl w.heap.size 5 i0 _ 1 Tryz.underlying40 hi0 hz0 hz1 hz2 rfl _ ts'.length _ (by rfl) hown _ (by rfl) rfl hlen (by decide) hz ?_)
               intro v1 w1 hown1 hg1 _
               rw [Hu.out] at hown1)
            | (go_at_call 80
               refine (lowest_at _ _ held' (n' - 6) _ rfl Hc2.out hc3 Hc4.out).mono ?_
               rintro e w2 ⟨rfl, rfl⟩))
          go_roundg (n' - 6)
          case measure => omega
          case rel =>
            refine ⟨held' % 2 ^ (n' - 6), n' - 6, ts' ++ [held' / 2 ^ (n' - 6)], rfl, by rw [Hc2.out], rfl, by have := Hc4.out; omega, Nat.mod_lt _ (Nat.two_pow_pos _), ?_, below_own hbl hg1 hown (Nat.le_refl _) hz, ?_⟩
            · simpa using hown1
            · rw [← Ht.out, encN_digit held' n' _ (by have := Hn.out; omega), List.append_assoc]; rfl
        · go_wp2_with fail
          go_roundg (l.length - (k + 1))
          case measure => have := Hgk.out; omega
          case rel =>
            exact ⟨k + 1, by go_num, by omega, rfl, held', n', ts', rfl, rfl, by have := Hn.out; omega, hh', hown, hbl, Ht.out⟩
    · have hz : w.heap.size ≤ wr.heap.size := hbl.size
      have hkn : k = l.length := by omega
      have Hts := Lib.hid hts
      have hlen : ts.length + 1 ≤ 1048576 := by
        have h1 := congrArg List.length hts
        rw [List.length_append, b64_length] at h1
        omega
      have Hkn := Lib.hid hkn
      clear hts hkn hgk
      have hdr : l.drop k = [] := by rw [Hkn.out]; simp
      rcases hm with rfl | rfl | rfl
      · obtain ⟨A', c', rfl, hA'⟩ := own_form hown
        have hcv := run_convert_bytes (P := Tryz.prog) (c := c') 40 9 5 Tryz.underlying40 Tryz.underlying5 Tryz.underlying9 (Holds.own hown) (fun h => (hA' h).1)
        have Hdr := Lib.hid hdr
        clear hdr
        go_wp2
        go_ret
        refine ⟨?_, hbl⟩
        have h1 := Hts.out
        rw [Hdr.out] at h1
        simp only [encN, encS, List.append_nil] at h1
        show Ending.returned (str (ts.map dgt)) = _
        rw [h1]; rfl
      · have hh4 : held < 4 := hh
        have hq0 : (0 : Int) ≤ (held : Int) * 16 := by omega
        have hq1 : (held : Int) * 16 < 64 := by omega
        have hu := dgtV_nat ((held : Int) * 16) (held * 16) (by simp)
        have Hu := Lib.hid hu
        have Hdr := Lib.hid hdr
        clear hu hdr
        go_wp2_with (at_builtin
                     refine wpList_append1 wr rfl _ _ _ rfl w.heap.size 5 i0 _ 1 Tryz.underlying40 hi0 hz0 hz1 hz2 rfl _ ts.length _ (by rfl) hown _ (by rfl) rfl hlen (by decide) hz ?_
                     intro v1 w1 hown1 hg1 _
                     rw [Hu.out] at hown1
                     obtain ⟨A', c', rfl, hA'⟩ := own_form hown1
                     have hown2 : w1.ownsRow w.heap.size 5 1 (.slice A' (ts.length + 1) c') (ts.length + 1) (((ts ++ [held * 16]).map dgt).map bv) := by simpa using hown1
                     have hcv := run_convert_bytes (P := Tryz.prog) (c := c') 40 9 5 Tryz.underlying40 Tryz.underlying5 Tryz.underlying9 (Holds.own hown2) (fun h => (hA' h).1))
        go_ret
        refine ⟨?_, below_own hbl hg1 hown (Nat.le_refl _) hz⟩
        have h1 := Hts.out
        rw [Hdr.out, encN_end held 2 (by omega)] at h1
        show Ending.returned (str (ts.map dgt ++ [dgt (held * 16)])) = _
        rw [show ts.map dgt ++ [dgt (held * 16)] = (ts ++ [held * 16]).map dgt from by simp, show held * 16 = held * 2 ^ (6 - 2) from rfl, h1]; rfl
      · have hh4 : held < 16 := hh
        have hq0 : (0 : Int) ≤ (held : Int) * 4 := by omega
        have hq1 : (held : Int) * 4 < 64 := by omega
        have hu := dgtV_nat ((held : Int) * 4) (held * 4) (by simp)
        have Hu := Lib.hid hu
        have Hdr := Lib.hid hdr
        clear hu hdr
        go_wp2_with (at_builtin
                     refine wpList_append1 wr rfl _ _ _ rfl w.heap.size 5 i0 _ 1 Tryz.underlying40 hi0 hz0 hz1 hz2 rfl _ ts.length _ (by rfl) hown _ (by rfl) rfl hlen (by decide) hz ?_
                     intro v1 w1 hown1 hg1 _
                     rw [Hu.out] at hown1
                     obtain ⟨A', c', rfl, hA'⟩ := own_form hown1
                     have hown2 : w1.ownsRow w.heap.size 5 1 (.slice A' (ts.length + 1) c') (ts.length + 1) (((ts ++ [held * 4]).map dgt).map bv) := by simpa using hown1
                     have hcv := run_convert_bytes (P := Tryz.prog) (c := c') 40 9 5 Tryz.underlying40 Tryz.underlying5 Tryz.underlying9 (Holds.own hown2) (fun h => (hA' h).1))
        go_ret
        refine ⟨?_, below_own hbl hg1 hown (Nat.le_refl _) hz⟩
        have h1 := Hts.out
        rw [Hdr.out, encN_end held 4 (by omega)] at h1
        show Ending.returned (str (ts.map dgt ++ [dgt (held * 4)])) = _
        rw [show ts.map dgt ++ [dgt (held * 4)] = (ts ++ [held * 4]).map dgt from by simp, show held * 4 = held * 2 ^ (6 - 4) from rfl, h1]; rfl

theorem text_small (A : Option Addr) (n c : Nat) (l : List UInt8) (w : World) (hr : Holds w w.heap.size 1 A n (l.map bv)) (hl : n ≤ 600) :
    Calls Tryz.prog 33 #[.slice A n c] w fun e w' => e = .returned (.tuple #[str (enc l), .int .i64 0]) ∧ Below w.heap.size w w' := by
  go_enter Tryz.func33, Tryz.ntmps33
  go_wp2_with (go_at_call 59; refine (encode_any A n c l _ hr hl).mono ?_; rintro e w' ⟨rfl, hb⟩)
  go_ret2
  exact ⟨rfl, hb⟩
theorem text_big (A : Option Addr) (n c : Nat) (w : World) (hl : 600 < n) :
    Calls Tryz.prog 33 #[.slice A n c] w fun e w' => e = .returned (.tuple #[str [], .int .i64 1]) ∧ w = w' := by
  go_enter Tryz.func33, Tryz.ntmps33
  go_wp2
  go_ret2
  exact ⟨rfl, rfl⟩
end Go.Proofs.YtbdbcffnjibjoaaGreatDoor
