/- seal.number, seal.decode and seal.encode: what each call returns. -/
import Derived.Test.YtbdbcffnjibjoaaGreatDoorBunS
import Derived.Test.YtbdbcffnjibjoaaGreatDoorBaseDec
import Derived.Test.YtbdbcffnjibjoaaGreatDoorBunF
import Derived.StillTailTactics
namespace Go.Proofs.YtbdbcffnjibjoaaGreatDoor
set_option linter.unusedVariables false
set_option linter.unusedSimpArgs false
open Go.RowKit
attribute [local go_sem high] str_mk

/-- The four bytes of a signature. -/
def sigB (r s : Nat) : List UInt8 := [UInt8.ofNat (r / 256), UInt8.ofNat (r % 256), UInt8.ofNat (s / 256), UInt8.ofNat (s % 256)]
def sigV (r s : Nat) : JV := .mk 5 0 (enc (sigB r s)) [] []
set_option maxRecDepth 100000 in
set_option maxHeartbeats 1000000 in
theorem encode_sig (r s : Nat) (hr : r < 65536) (hs : s < 65536) (w : World) : Calls Tryz.prog 12 #[.agg #[.int .i64 r, .int .i64 s]] w fun e w' =>
    e = .returned (.agg #[.int .i64 5, .int .i64 0, str (enc (sigB r s)), .slice none 0 0, .slice none 0 0]) ∧ Below w.heap.size w w' := by
  go_enter Tryz.func12, Tryz.ntmps12
  have hbytes : Holds (((w.alloc (.cells #[.int .i64 r, .int .i64 s] 37)).alloc (.cells #[.int .i64 0, .int .i64 0, str [], .slice none 0 0, .slice none 0 0] 25)).alloc (.cells #[.int .u8 ((r : Int) / 256), .int .u8 ((r : Int) % 256), .int .u8 ((s : Int) / 256), .int .u8 ((s : Int) % 256)] 65))
      (((w.alloc (.cells #[.int .i64 r, .int .i64 s] 37)).alloc (.cells #[.int .i64 0, .int .i64 0, str [], .slice none 0 0, .slice none 0 0] 25)).alloc (.cells #[.int .u8 ((r : Int) / 256), .int .u8 ((r : Int) % 256), .int .u8 ((s : Int) / 256), .int .u8 ((s : Int) % 256)] 65)).heap.size 1 (some ⟨w.heap.size + 1 + 1, 0, none⟩) 4 ((sigB r s).map bv) := by
    refine ⟨rfl, fun _ => ⟨w.heap.size + 1 + 1, 0, rfl, by simp, fun j u hu => ?_⟩⟩
    have hb := Blk.new ((w.alloc (.cells #[.int .i64 r, .int .i64 s] 37)).alloc (.cells #[.int .i64 0, .int .i64 0, str [], .slice none 0 0, .slice none 0 0] 25)) 65 #[.int .u8 ((r : Int) / 256), .int .u8 ((r : Int) % 256), .int .u8 ((s : Int) / 256), .int .u8 ((s : Int) % 256)]
    rw [show ((w.alloc (.cells #[.int .i64 r, .int .i64 s] 37)).alloc (.cells #[.int .i64 0, .int .i64 0, str [], .slice none 0 0, .slice none 0 0] 25)).heap.size = w.heap.size + 1 + 1 by simp] at hb
    rw [Nat.zero_add, hb.cell j, u8_of _ (r / 256) (by omega) (by omega), u8_of _ (r % 256) (by omega) (by omega), u8_of _ (s / 256) (by omega) (by omega), u8_of _ (s % 256) (by omega) (by omega)]
    simpa [sigB] using hu
  have Hb := Lib.hid hbytes
  have HW := Lib.hid (show Below w.heap.size w (((w.alloc (.cells #[.int .i64 r, .int .i64 s] 37)).alloc (.cells #[.int .i64 0, .int .i64 0, str [], .slice none 0 0, .slice none 0 0] 25)).alloc (.cells #[.int .u8 ((r : Int) / 256), .int .u8 ((r : Int) % 256), .int .u8 ((s : Int) / 256), .int .u8 ((s : Int) % 256)] 65)) from
    (((Below.refl _ _).alloc (Nat.le_refl _) _).alloc (by simp) _).alloc (by simp; omega) _)
  have b2 := (Blk.new (w.alloc (.cells #[.int .i64 r, .int .i64 s] 37)) 25 #[.int .i64 0, .int .i64 0, str [], .slice none 0 0, .slice none 0 0]).alloc (.cells #[.int .u8 ((r : Int) / 256), .int .u8 ((r : Int) % 256), .int .u8 ((s : Int) / 256), .int .u8 ((s : Int) % 256)] 65)
  rw [show (w.alloc (.cells #[.int .i64 r, .int .i64 s] 37)).heap.size = w.heap.size + 1 by simp] at b2
  have H2 := Lib.hid b2
  clear b2 hbytes
  go_wp2_with fail
  refine (text_small _ 4 4 (sigB r s) _ Hb.out (by omega)).mono ?_
  rintro e w1 ⟨rfl, hb1⟩
  have hx := H2.out.below hb1 (by simp)
  obtain ⟨s0, s1, s2, s3, s4, z0, z1, z2, z3, z4⟩ := sl_box hx
  generalize hq : enc (sigB r s) = q at *
  have Hq := Lib.hid hq
  clear hq
  go_wp2_with fail
  refine ret_v1 (by rfl) (by rfl) (sl_set5 hx _ _ _ _ _) (by rfl) ?_
  exact ⟨by rw [Hq.out], sl_below5 (HW.out.trans (hb1.mono HW.out.size)) (by omega) _ _ _ _ _⟩

/-- The signature that a text stands for. -/
def sigD (t : List UInt8) : Option (Nat × Nat) := match dec 0 0 t with
  | some [a, b, c, d] => some (a.toNat * 256 + b.toNat, c.toNat * 256 + d.toNat)
  | _ => none
theorem sigD_none {t : List UInt8} (h : dec 0 0 t = none) : sigD t = none := by unfold sigD; rw [h]
theorem sigD_len {t l : List UInt8} (h : dec 0 0 t = some l) (hl : l.length ≠ 4) : sigD t = none := by
  unfold sigD; rw [h]
  split
  · rename_i e; injection e with e; subst e; exact absurd rfl hl
  · rfl
theorem sigD_four {t : List UInt8} {a b c d : UInt8} (h : dec 0 0 t = some [a, b, c, d]) : sigD t = some (a.toNat * 256 + b.toNat, c.toNat * 256 + d.toNat) := by unfold sigD; rw [h]
def sigDV (o : Option (Nat × Nat)) : Value := match o with
  | some (r, s) => .tuple #[.agg #[.int .i64 r, .int .i64 s], .bool true]
  | none => .tuple #[.agg #[.int .i64 0, .int .i64 0], .bool false]
theorem four_of {l : List UInt8} (h : l.length = 4) : ∃ a b c d, l = [a, b, c, d] := by
  match l, h with
  | [a, b, c, d], _ => exact ⟨a, b, c, d, rfl⟩
end Go.Proofs.YtbdbcffnjibjoaaGreatDoor
