/- seal.number, seal.decode and seal.encode: what each call returns. -/
import Derived.Test.YthkbeliplibiaaaGreatDoorBunS
import Derived.Test.YthkbeliplibiaaaGreatDoorBaseDec
import Derived.Test.YthkbeliplibiaaaGreatDoorBunF
import Derived.StillTailTactics
namespace Go.Proofs.YthkbeliplibiaaaGreatDoor
set_option linter.unusedVariables false
set_option linter.unusedSimpArgs false
open Go.RowKit
attribute [local go_sem high] str_mk

/-- The four bytes of a signature. -/
def sigB (r s : Nat) : List UInt8 := [UInt8.ofNat (r / 256), UInt8.ofNat (r % 256), UInt8.ofNat (s / 256), UInt8.ofNat (s % 256)]
def sigV (r s : Nat) : JV := .mk 5 0 (enc (sigB r s)) [] []
set_option maxHeartbeats 1000000 in
theorem slNumber_any (a b : UInt8) (w : World) : Calls Tryz.prog 60 #[.int .u8 (a.toNat : Int), .int .u8 (b.toNat : Int)] w fun e w' => e = .returned (.int .i64 ((a.toNat * 256 + b.toNat : Nat) : Int)) ∧ w' = w := by
  have ha : a.toNat < 256 := a.toNat_lt
  have hb : b.toNat < 256 := b.toNat_lt
  generalize a.toNat = x at *
  generalize b.toNat = y at *
  go_enter Tryz.func60, Tryz.ntmps60
  go_wp2
  go_ret
  refine ⟨?_, rfl⟩
  have h := or_low x y 8 (by omega) (by omega)
  show Ending.returned (.int .i64 (bits .or .i64 ((x : Int) * 256) (y : Int))) = _
  rw [show ((x : Int) * 256) = ((x * 2 ^ 8 : Nat) : Int) by omega, h]
set_option maxRecDepth 100000 in
set_option maxHeartbeats 1000000 in
theorem encode_sig (r s : Nat) (hr : r < 65536) (hs : s < 65536) (w : World) : Calls Tryz.prog 18 #[.agg #[.int .i64 r, .int .i64 s]] w fun e w' =>
    e = .returned (.agg #[.int .i64 5, .int .i64 0, str (enc (sigB r s)), .slice none 0 0, .slice none 0 0]) ∧ Below w.heap.size w w' := by
  go_enter Tryz.func18, Tryz.ntmps18
  have hbytes : Holds (((w.alloc (.cells #[.int .i64 r, .int .i64 s] 45)).alloc (.cells #[.int .i64 0, .int .i64 0, str [], .slice none 0 0, .slice none 0 0] 25)).alloc (.cells #[.int .u8 ((r : Int) / 256), .int .u8 ((r : Int) % 256), .int .u8 ((s : Int) / 256), .int .u8 ((s : Int) % 256)] 82))
      (((w.alloc (.cells #[.int .i64 r, .int .i64 s] 45)).alloc (.cells #[.int .i64 0, .int .i64 0, str [], .slice none 0 0, .slice none 0 0] 25)).alloc (.cells #[.int .u8 ((r : Int) / 256), .int .u8 ((r : Int) % 256), .int .u8 ((s : Int) / 256), .int .u8 ((s : Int) % 256)] 82)).heap.size 1 (some ⟨w.heap.size + 1 + 1, 0, none⟩) 4 ((sigB r s).map bv) := by
    refine ⟨rfl, fun _ => ⟨w.heap.size + 1 + 1, 0, rfl, by simp, fun j u hu => ?_⟩⟩
    have hb := Blk.new ((w.alloc (.cells #[.int .i64 r, .int .i64 s] 45)).alloc (.cells #[.int .i64 0, .int .i64 0, str [], .slice none 0 0, .slice none 0 0] 25)) 82 #[.int .u8 ((r : Int) / 256), .int .u8 ((r : Int) % 256), .int .u8 ((s : Int) / 256), .int .u8 ((s : Int) % 256)]
    rw [show ((w.alloc (.cells #[.int .i64 r, .int .i64 s] 45)).alloc (.cells #[.int .i64 0, .int .i64 0, str [], .slice none 0 0, .slice none 0 0] 25)).heap.size = w.heap.size + 1 + 1 by simp] at hb
    rw [Nat.zero_add, hb.cell j, u8_of _ (r / 256) (by omega) (by omega), u8_of _ (r % 256) (by omega) (by omega), u8_of _ (s / 256) (by omega) (by omega), u8_of _ (s % 256) (by omega) (by omega)]
    simpa [sigB] using hu
  have Hb := Lib.hid hbytes
  have HW := Lib.hid (show Below w.heap.size w (((w.alloc (.cells #[.int .i64 r, .int .i64 s] 45)).alloc (.cells #[.int .i64 0, .int .i64 0, str [], .slice none 0 0, .slice none 0 0] 25)).alloc (.cells #[.int .u8 ((r : Int) / 256), .int .u8 ((r : Int) % 256), .int .u8 ((s : Int) / 256), .int .u8 ((s : Int) % 256)] 82)) from
    (((Below.refl _ _).alloc (Nat.le_refl _) _).alloc (by simp) _).alloc (by simp; omega) _)
  have b2 := (Blk.new (w.alloc (.cells #[.int .i64 r, .int .i64 s] 45)) 25 #[.int .i64 0, .int .i64 0, str [], .slice none 0 0, .slice none 0 0]).alloc (.cells #[.int .u8 ((r : Int) / 256), .int .u8 ((r : Int) % 256), .int .u8 ((s : Int) / 256), .int .u8 ((s : Int) % 256)] 82)
  rw [show (w.alloc (.cells #[.int .i64 r, .int .i64 s] 45)).heap.size = w.heap.size + 1 by simp] at b2
  have H2 := Lib.hid b2
  clear b2 hbytes
  go_wp2_with fail
  refine (text_small _ 4 4 (sigB r s) _ Hb.out (by omega)).mono ?_
  rintro e w1 ⟨rfl, hb1⟩
  have hx := H2.out.below hb1 (by simp)
  obtain ⟨s0, s1, s2, s3, s4, z0, z1, z2, z3, z4⟩ := sl_box hx
  generalize hq : enc (sigB r s) = q at *
  have Hq := Lib.hid hq
  clear hq
  go_wp2_with fail
  refine ret_v1 (by rfl) (by rfl) (sl_set5 hx _ _ _ _ _) (by rfl) ?_
  exact ⟨by rw [Hq.out], sl_below5 (HW.out.trans (hb1.mono HW.out.size)) (by omega) _ _ _ _ _⟩

/-- The signature that a text stands for. -/
def sigD (t : List UInt8) : Option (Nat × Nat) := match dec 0 0 t with
  | some [a, b, c, d] => some (a.toNat * 256 + b.toNat, c.toNat * 256 + d.toNat)
  | _ => none
theorem sigD_none {t : List UInt8} (h : dec 0 0 t = none) : sigD t = none := by unfold sigD; rw [h]
theorem sigD_len {t l : List UInt8} (h : dec 0 0 t = some l) (hl : l.length ≠ 4) : sigD t = none := by
  unfold sigD; rw [h]
  split
  · rename_i e; injection e with e; subst e; exact absurd rfl hl
  · rfl
theorem sigD_four {t : List UInt8} {a b c d : UInt8} (h : dec 0 0 t = some [a, b, c, d]) : sigD t = some (a.toNat * 256 + b.toNat, c.toNat * 256 + d.toNat) := by unfold sigD; rw [h]
def sigDV (o : Option (Nat × Nat)) : Value := match o with
  | some (r, s) => .tuple #[.agg #[.int .i64 r, .int .i64 s], .bool true]
  | none => .tuple #[.agg #[.int .i64 0, .int .i64 0], .bool false]
theorem four_of {l : List UInt8} (h : l.length = 4) : ∃ a b c d, l = [a, b, c, d] := by
  match l, h with
  | [a, b, c, d], _ => exact ⟨a, b, c, d, rfl⟩
set_option maxRecDepth 100000 in
set_option maxHeartbeats 2000000 in
theorem decode_sig (t : List UInt8) (ht : t.length ≤ 1200) (w : World) : Calls Tryz.prog 34 #[str t] w fun e w' => e = .returned (sigDV (sigD t)) ∧ Below w.heap.size w w' := by
  have HA := Lib.hid (show Below w.heap.size w (w.alloc (.cells #[.int .i64 0, .int .i64 0] 45)) from (Below.refl _ _).alloc (Nat.le_refl _) _)
  have Hb := Lib.hid (Blk.new w 45 #[.int .i64 0, .int .i64 0])
  go_enter Tryz.func34, Tryz.ntmps34
  go_wp2_with fail
  refine (bytes_small t _ ht).mono ?_
  rintro e w1 ⟨hb1, ⟨hd, rfl⟩ | ⟨l, A, c, hd, rfl, hown, hl⟩⟩
  · have hx := Hb.out.below hb1 (by simp)
    have c0 : w1.cell? ⟨w.heap.size, 0, none⟩ = some (.int .i64 0) := hx.cell 0
    have c1 : w1.cell? ⟨w.heap.size, 1, none⟩ = some (.int .i64 0) := hx.cell 1
    have f0 := hx.frozen 0
    have f1 := hx.frozen 1
    have Hd := Lib.hid (sigD_none hd)
    go_wp2_with fail
    have hy := (hx.set_ 0 (.int .i64 0)).set_ 1 (.int .i64 0)
    refine ret_sign (by rfl) (by rfl) (by rfl) (x0 := .int .i64 0) (x1 := .int .i64 0) (hy.cell 0) (hy.cell 1) (by rfl) ?_
    exact ⟨by rw [Hd.out]; rfl, ((HA.out.trans (hb1.mono HA.out.size)).setCell (Nat.le_refl _) _).setCell (Nat.le_refl _) _⟩
  · have hx := Hb.out.below hb1 (by simp)
    have c0 : w1.cell? ⟨w.heap.size, 0, none⟩ = some (.int .i64 0) := hx.cell 0
    have c1 : w1.cell? ⟨w.heap.size, 1, none⟩ = some (.int .i64 0) := hx.cell 1
    have f0 := hx.frozen 0
    have f1 := hx.frozen 1
    have hbw : Below w.heap.size w w1 := HA.out.trans (hb1.mono HA.out.size)
    by_cases h4 : l.length = 4
    · obtain ⟨a, b, c', d, rfl⟩ := four_of h4
      have Hd := Lib.hid (sigD_four hd)
      have hh : Holds w1 w1.heap.size 1 A 4 ([a, b, c', d].map bv) := Holds.own hown
      obtain ⟨g, off, rfl, hg, hc⟩ := hh.2 (by omega)
      have x0 : w1.cell? ⟨g, off, none⟩ = some (.int .u8 (a.toNat : Int)) := hc 0 _ rfl
      have x1 : w1.cell? ⟨g, off + 1, none⟩ = some (.int .u8 (b.toNat : Int)) := hc 1 _ rfl
      have x2 : w1.cell? ⟨g, off + 2, none⟩ = some (.int .u8 (c'.toNat : Int)) := hc 2 _ rfl
      have x3 : w1.cell? ⟨g, off + 3, none⟩ = some (.int .u8 (d.toNat : Int)) := hc 3 _ rfl
      clear hc hown hd hh h4 hl
      simp only [List.length_cons, List.length_nil]
      go_wp2_with fail
      refine wp_region_still_tail 14 (by kernel_rfl) (by kernel_rfl) ?_
      simp only [List.take_succ_cons, List.take_zero, List.drop_succ_cons, List.drop_zero]
      repeat still_step
      still_call (slNumber_any a b _)
      repeat still_step
      still_call (slNumber_any c' d _)
      repeat still_step
      refine wpStill_nil ?_
      change wpList _ _ _ _ _ w1.drew
      have hxd : Blk w1.drew w.heap.size 45 #[.int .i64 0, .int .i64 0] := hx
      have hbwd : Below w.heap.size w w1.drew := below_drewN hbw 1
      clear c0 c1 f0 f1 x0 x1 x2 x3
      generalize w1.drew = W at *
      have c0 : W.cell? ⟨w.heap.size, 0, none⟩ = some (.int .i64 0) := hxd.cell 0
      have c1 : W.cell? ⟨w.heap.size, 1, none⟩ = some (.int .i64 0) := hxd.cell 1
      have f0 := hxd.frozen 0
      have f1 := hxd.frozen 1
      go_wp2_with fail
      have hy := (hxd.set_ 0 (.int .i64 ((a.toNat * 256 + b.toNat : Nat) : Int))).set_ 1 (.int .i64 ((c'.toNat * 256 + d.toNat : Nat) : Int))
      refine ret_sign (by rfl) (by rfl) (by rfl) (x0 := .int .i64 ((a.toNat * 256 + b.toNat : Nat) : Int)) (x1 := .int .i64 ((c'.toNat * 256 + d.toNat : Nat) : Int)) (hy.cell 0) (hy.cell 1) (by rfl) ?_
      exact ⟨by rw [Hd.out]; rfl, (hbwd.setCell (Nat.le_refl _) _).setCell (Nat.le_refl _) _⟩
    · have Hd := Lib.hid (sigD_len hd h4)
      have h4b : ((l.length : Int) != 4) = true := by rw [bne_iff_ne]; omega
      clear hd h4 hown
      go_wp2_with fail
      have hy := (hx.set_ 0 (.int .i64 0)).set_ 1 (.int .i64 0)
      refine ret_sign (by rfl) (by rfl) (by rfl) (x0 := .int .i64 0) (x1 := .int .i64 0) (hy.cell 0) (hy.cell 1) (by rfl) ?_
      exact ⟨by rw [Hd.out]; rfl, (hbw.setCell (Nat.le_refl _) _).setCell (Nat.le_refl _) _⟩
end Go.Proofs.YthkbeliplibiaaaGreatDoor
