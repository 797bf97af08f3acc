/- slices.BinarySearch at strings: what the call returns. -/
import Derived.Test.YtbdbcffnjibjoaaGreatDoorBunB
import Derived.Test.YtbdbcffnjibjoaaGreatDoorJIncr
import Derived.WalkSmall
namespace Go.Proofs.YtbdbcffnjibjoaaGreatDoor
set_option linter.unusedVariables false
set_option linter.unusedSimpArgs false
open Go.RowKit
attribute [local go_sem high] str_mk
theorem cmpNaN_any (s : List UInt8) (w : World) : Calls Tryz.prog 77 #[str s] w fun e w' => e = .returned (.bool false) ∧ w = w' := by
  go_enter Tryz.func77, Tryz.ntmps77
  go_wp2
  go_ret
  exact ⟨by simp, rfl⟩
theorem slNaN_any (s : List UInt8) (w : World) : Calls Tryz.prog 53 #[str s] w fun e w' => e = .returned (.bool false) ∧ w = w' := by
  go_enter Tryz.func53, Tryz.ntmps53
  go_wp2
  go_ret
  exact ⟨by simp, rfl⟩
theorem cmpLess_any (a b : List UInt8) (w : World) : Calls Tryz.prog 52 #[str a, str b] w fun e w' => e = .returned (.bool (Op.bytesLess a b)) ∧ w = w' := by
  go_enter Tryz.func52, Tryz.ntmps52
  go_wp2_with fail
  refine (cmpNaN_any a _).mono ?_
  rintro e w1 ⟨rfl, rfl⟩
  go_wp2_with fail
  go_ret
  exact ⟨rfl, rfl⟩

def BinR (ks : List (List UInt8)) (t : List UInt8) (w : World) (gk : Nat) (i j : Value) (wr : World) : Prop :=
  ∃ lo hi q : Nat, i = .int .i64 lo ∧ j = .int .i64 hi ∧ lo ≤ place ks t ∧ place ks t ≤ hi ∧ hi ≤ ks.length ∧ gk = hi - lo ∧ wr = w.drewN q

set_option maxRecDepth 100000 in
set_option maxHeartbeats 2000000 in
theorem bin_any (A : Option Addr) (c : Nat) (ks : List (List UInt8)) (t : List UInt8) (w : World) (B : Nat) (hh : Holds w B 1 A ks.length (ks.map str)) (hl : ks.length ≤ 1048576) (hin : incr ks = true) :
    Calls Tryz.prog 29 #[.slice A ks.length c, str t] w fun e w' =>
      e = .returned (.tuple #[.int .i64 (place ks t), .bool (decide (t ∈ ks))]) ∧ ∃ q, w' = w.drewN q := by
  have hpl := place_le ks t
  go_enter Tryz.func29, Tryz.ntmps29
  go_wp2
  go_loopg [7, 8] ks.length (BinR ks t w)
  case atStart => exact ⟨0, ks.length, 0, rfl, rfl, by omega, hpl, Nat.le_refl _, by omega, rfl⟩
  case round =>
    obtain ⟨lo, hi, q, rfl, rfl, h1, h2, h3, hgk, rfl⟩ := hrel
    have Hgk := Lib.hid hgk
    have Hin := Lib.hid hin
    clear hgk hin
    by_cases hlt : lo < hi
    · obtain ⟨b, off, hm, rfl, hb, hc⟩ := hh.str (k := (lo + hi) / 2) (by omega)
      have hms : ks[(lo + hi) / 2]? = some ks[(lo + hi) / 2] := List.getElem?_eq_getElem hm
      have E1 := Lib.hid (show ((lo : Int) + (hi : Int)) / 2 = (((lo + hi) / 2 : Nat) : Int) by omega)
      cases hle : Op.bytesLess ks[(lo + hi) / 2] t
      · have hp : place ks t ≤ (lo + hi) / 2 := by
          rcases Nat.lt_or_ge ((lo + hi) / 2) (place ks t) with h | h
          · obtain ⟨x, hx, hx2⟩ := place_lt h
            rw [hms] at hx
            injection hx with hx
            subst hx
            rw [hle] at hx2; cases hx2
          · exact h
        generalize ks[(lo + hi) / 2] = y at *
        clear hms
        have Hle := Lib.hid hle
        clear hle
        go_wp2_with fail
        refine (cmpLess_any y t _).mono ?_
        rintro e w1 ⟨rfl, rfl⟩
        rw [Hle.out]
        go_wp2_with fail
        go_roundg ((lo + hi) / 2 - lo)
        case measure => have := Hgk.out; omega
        case rel => exact ⟨lo, (lo + hi) / 2, _, rfl, by rw [E1.out], h1, hp, by omega, rfl, rfl⟩
      · have hp : (lo + hi) / 2 < place ks t := by
          rcases Nat.lt_or_ge ((lo + hi) / 2) (place ks t) with h | h
          · exact h
          · have := place_ge Hin.out h hms
            rw [hle] at this; cases this
        generalize ks[(lo + hi) / 2] = y at *
        clear hms
        have Hle := Lib.hid hle
        clear hle
        go_wp2_with fail
        refine (cmpLess_any y t _).mono ?_
        rintro e w1 ⟨rfl, rfl⟩
        rw [Hle.out]
        go_wp2_with fail
        go_roundg (hi - ((lo + hi) / 2 + 1))
        case measure => have := Hgk.out; omega
        case rel => exact ⟨(lo + hi) / 2 + 1, hi, _, by rw [E1.out]; rfl, rfl, by omega, h2, h3, rfl, rfl⟩
    · have hlo : lo = place ks t := by omega
      have hhi : hi = place ks t := by omega
      subst hlo
      have Hmem := Lib.hid (place_mem (k := t) Hin.out)
      by_cases hn : place ks t < ks.length
      · obtain ⟨b, off, hm, rfl, hb, hc⟩ := hh.str hn
        have hms : ks[place ks t]? = some ks[place ks t] := List.getElem?_eq_getElem hm
        have Hms := Lib.hid hms
        clear hms
        generalize ks[place ks t] = y at *
        generalize hpp : place ks t = p at *
        have Hpp := Lib.hid hpp
        clear hpp
        subst hhi
        by_cases hyt : y = t
        · subst hyt
          have Hd := Lib.hid (show decide (y ∈ ks) = true from decide_eq_true (Hmem.out.2 Hms.out))
          go_wp2_with fail
          go_ret2
          exact ⟨by rw [Hd.out, Hpp.out]; rfl, _, rfl⟩
        · have hyb : (y == t) = false := by simpa using hyt
          have Hd := Lib.hid (show decide (t ∈ ks) = false from decide_eq_false (fun h => by
            have := Hmem.out.1 h; rw [Hms.out] at this; injection this with this; exact hyt this))
          clear hyt
          go_wp2_with fail
          refine (slNaN_any y _).mono ?_
          rintro e w1 ⟨rfl, rfl⟩
          go_wp2_with fail
          go_ret2
          exact ⟨by rw [Hd.out, Hpp.out]; rfl, _, rfl⟩
      · have Hd := Lib.hid (show decide (t ∈ ks) = false from decide_eq_false (fun h => by
          have := Hmem.out.1 h; rw [List.getElem?_eq_none (by omega)] at this; cases this))
        generalize hpp : place ks t = p at *
        have Hpp := Lib.hid hpp
        clear hpp
        subst hhi
        go_wp2_with fail
        go_ret2
        exact ⟨by rw [Hd.out, Hpp.out]; rfl, _, rfl⟩
end Go.Proofs.YtbdbcffnjibjoaaGreatDoor
