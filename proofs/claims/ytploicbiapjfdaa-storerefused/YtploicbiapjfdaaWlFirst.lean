/- Package wal: the first frame of some bytes; the reader of frames; bytes.Clone. -/
import Derived.Test.YtploicbiapjfdaaBunWA
import Derived.Test.YtploicbiapjfdaaWlPack
import Derived.Test.YtploicbiapjfdaaRgG
namespace Go.Proofs.Ytploicbiapjfdaa
set_option linter.unusedVariables false
set_option linter.unusedSimpArgs false
open Go.RowKit
@[go_sem] theorem eq_sums (a b c d : Int) (w : World) : (Op.equalIn 10000 111 (.agg #[.int .u8 a, .int .u8 b]) (.agg #[.int .u8 c, .int .u8 d])).run Try.prog w = .ok (a == c && b == d) w := by
  have u3 := Try.underlying5
  have a3 := Try.isAgg5
  have z3 := Try.sizeOf5
  rw [show (10000 : Nat) = 9999 + 1 from rfl, Op.equalIn]
  simp only [Sem.run_bind, run_underlying Try.underlying111, Result.andThen_ok]
  simp only [Std.Legacy.Range.forIn_eq_forIn_range', Std.Legacy.Range.size, Nat.sub_zero, Nat.add_sub_cancel, Nat.div_one, List.range'_succ, List.range'_zero, List.forIn_cons, List.forIn_nil]
  go_simp
  by_cases h1 : a = c <;> by_cases h2 : b = d <;> simp [h1, h2]
/-- What firstFrame returns. -/
def ffV (A : Option Addr) (c : Nat) (l : List UInt8) : Value :=
  match ff l with
  | none => .slice none 0 0
  | some (r, _, _) => .slice A (r.length + 4) c
theorem ffV_none {A : Option Addr} {c : Nat} {l : List UInt8} (h : ff l = none) : ffV A c l = .slice none 0 0 := by unfold ffV; rw [h]
theorem ffV_some {A : Option Addr} {c : Nat} {l r b' : List UInt8} {last : Bool} (h : ff l = some (r, last, b')) : ffV A c l = .slice A (r.length + 4) c := by unfold ffV; rw [h]
theorem ret_v {a b : Value} (h : a = b) : Ending.returned a = .returned b := by rw [h]
set_option maxHeartbeats 2000000 in
theorem firstFrame_any (A : Option Addr) (n c : Nat) (l : List UInt8) (w : World) (hh : Holds w w.heap.size 1 A n (l.map bv)) (hn : n ≤ 1200) (hc : n ≤ c) :
    Calls Try.prog 70 #[.slice A n c] w fun e w' => e = .returned (ffV A c l) ∧ Below w.heap.size w w' := by
  have hl := hh.len
  by_cases h2 : (n : Int) < 2
  · have H := Lib.hid (ffV_none (A := A) (c := c) (ff_no0 (b := l) (by omega)))
    clear hl hh
    rw [H.out]
    go_enter Try.func70, Try.ntmps70
    go_wp2
    go_ret
    exact ⟨rfl, Below.refl _ _⟩
  · match l, hl, hh with
    | [], hl, _ => simp at hl; omega
    | [_], hl, _ => simp at hl; omega
    | x :: f :: rest, hl, hh =>
    obtain ⟨b, off, _, rfl, hb, hc0⟩ := hh.byte (k := 0) (by omega)
    obtain ⟨_, _, _, e, _, hc1⟩ := hh.byte (k := 1) (by omega)
    injection e with e
    injection e with e1 e2
    subst e1 e2
    simp only [List.getElem_cons_zero, List.getElem_cons_succ, Nat.add_zero] at hc0 hc1
    obtain ⟨X, hX⟩ : ∃ X, x.toNat = X := ⟨_, rfl⟩
    obtain ⟨F, hF⟩ : ∃ F, f.toNat = F := ⟨_, rfl⟩
    have hXl := x.toNat_lt
    have hFl := f.toNat_lt
    rw [hX] at hc0 hXl
    rw [hF] at hc1 hFl
    have HX := Lib.hid hX
    have HF := Lib.hid hF
    have Hl := Lib.hid hl
    have Hh := Lib.hid hh
    clear hX hF hl hh
    have hrs := isRecordSize_any X w (by omega)
    by_cases h3 : 1 ≤ X ∧ X ≤ 60
    · obtain ⟨h3a, h3b⟩ := h3
      rw [decide_eq_true h3a, decide_eq_true h3b] at hrs
      have Hrs := Lib.hid hrs
      clear hrs
      by_cases h4 : 1 < (F : Int)
      · have H := Lib.hid (ffV_none (A := some ⟨b, off, none⟩) (c := c) (ff_no2 (x := x) (f := f) (rest := rest) (by rw [HF.out]; omega)))
        rw [H.out]
        go_enter Try.func70, Try.ntmps70
        go_wp2_with fail
        refine Hrs.out.mono ?_
        rintro e w1 ⟨rfl, rfl⟩
        go_wp2
        go_ret
        exact ⟨rfl, Below.refl _ _⟩
      · by_cases h5 : (n : Int) < 2 + (X : Int) + 2
        · have H := Lib.hid (ffV_none (A := some ⟨b, off, none⟩) (c := c) (ff_no3 (x := x) (f := f) (rest := rest) (by have := Hl.out; simp at this; rw [HX.out]; omega)))
          rw [H.out]
          go_enter Try.func70, Try.ntmps70
          go_wp2_with fail
          refine Hrs.out.mono ?_
          rintro e w1 ⟨rfl, rfl⟩
          go_wp2_with fail
          go_quiet (fail)
          go_wp2
          go_ret
          exact ⟨rfl, below_drewN (Below.refl _ _) _⟩
        · have hrl : X + 2 ≤ rest.length := by have := Hl.out; simp at this; omega
          have hff := ff_sum (x := x) (f := f) (rest := rest) (by rw [HX.out]; omega) (by rw [HX.out]; omega) (by rw [HF.out]; omega) (by rw [HX.out]; omega)
          simp only [HX.out] at hff
          obtain ⟨_, _, hk2, e, _, hcE⟩ := Hh.out.byte (k := 2 + X) (by omega)
          injection e with e
          injection e with e1 e2
          subst e1 e2
          obtain ⟨_, _, hk3, e, _, hcF⟩ := Hh.out.byte (k := 2 + X + 1) (by omega)
          injection e with e
          injection e with e1 e2
          subst e1 e2
          have g2 : (x :: f :: rest)[2 + X]'hk2 = rest[X]'(by omega) := by simp [Nat.add_comm 2 X]
          have g3 : (x :: f :: rest)[2 + X + 1]'hk3 = rest[X + 1]'(by omega) := by simp [show 2 + X + 1 = X + 1 + 2 by omega]
          rw [g2] at hcE
          rw [g3] at hcF
          obtain ⟨Y, hY⟩ : ∃ Y, (rest[X]'(by omega)).toNat = Y := ⟨_, rfl⟩
          obtain ⟨Z, hZ⟩ : ∃ Z, (rest[X + 1]'(by omega)).toNat = Z := ⟨_, rfl⟩
          simp only [hY, hZ] at hff
          rw [hY] at hcE
          rw [hZ] at hcF
          have Hff := Lib.hid hff
          have hhC : Holds w w.heap.size 1 (some ⟨b, off, none⟩) (2 + X) ((x :: f :: rest.take X).map bv) := by
            have := Hh.out.first (k := 2 + X) (by omega)
            rwa [show (x :: f :: rest).take (2 + X) = x :: f :: rest.take X by rw [Nat.add_comm]; rfl] at this
          have HhC := Lib.hid hhC
          clear hff hhC g2 g3 hY hZ hk2 hk3 hrl
          go_enter Try.func70, Try.ntmps70
          go_wp2_with fail
          refine Hrs.out.mono ?_
          rintro e w1 ⟨rfl, rfl⟩
          go_wp2_with fail
          have hw1 : IntKind.i64.wrap (2 + (X : Int) + 2) = 2 + (X : Int) + 2 := by simp [IntKind.wrap, IntKind.signed, IntKind.bits]; omega
          have hw2 : IntKind.i64.wrap (2 + (X : Int) + 1) = 2 + (X : Int) + 1 := by simp [IntKind.wrap, IntKind.signed, IntKind.bits]; omega
          have hn1 : (2 + (X : Int)).toNat = 2 + X := by omega
          have hn2 : (2 + (X : Int) + 1).toNat = 2 + X + 1 := by omega
          refine region_S (fun w' => w'.cell? ⟨b, off + (2 + X), none⟩ = some (.int .u8 (Y : Int)) ∧ w'.cell? ⟨b, off + (2 + X + 1), none⟩ = some (.int .u8 (Z : Int))) [] (by kernel_rfl) ?_
          have hS : w.drew.cell? ⟨b, off + (2 + X), none⟩ = some (.int .u8 (Y : Int)) ∧ w.drew.cell? ⟨b, off + (2 + X + 1), none⟩ = some (.int .u8 (Z : Int)) := ⟨hcE, hcF⟩
          refine anyS_take 0 (v := .slice (some ⟨b, off, none⟩) n c) rfl (by kernel_rfl) (by kernel_rfl) (by kernel_rfl) (by kernel_rfl) (fun _ _ _ h => h) (.inl ⟨by kernel_rfl, fun w' hS' => by kernel_rfl⟩) hS ?_
          refine anyS_take 1 (v := .int .i64 (n : Int)) rfl (by kernel_rfl) (by kernel_rfl) (by kernel_rfl) (by kernel_rfl) (fun _ _ _ h => h) (.inl ⟨by kernel_rfl, fun w' hS' => by go_simp⟩) hS ?_
          refine anyS_take 2 (v := .int .i64 (2 + (X : Int))) rfl (by kernel_rfl) (by kernel_rfl) (by kernel_rfl) (by kernel_rfl) (fun _ _ _ h => h) (.inl ⟨by kernel_rfl, fun w' hS' => by kernel_rfl⟩) hS ?_
          refine anyS_take 3 (v := .int .i64 (2 + (X : Int) + 2)) rfl (by kernel_rfl) (by kernel_rfl) (by kernel_rfl) (by kernel_rfl) (fun _ _ _ h => h) (.inl ⟨by kernel_rfl, fun w' hS' => by go_simp⟩) hS ?_
          refine anyS_take 4 (v := .bool false) rfl (by kernel_rfl) (by kernel_rfl) (by kernel_rfl) (by kernel_rfl) (fun _ _ _ h => h) (.inl ⟨by kernel_rfl, fun w' hS' => by go_simp⟩) hS ?_
          refine anyS_take 5 (v := .bool false) rfl (by kernel_rfl) (by kernel_rfl) (by kernel_rfl) (by kernel_rfl) (fun _ _ _ h => h) (.inl ⟨by kernel_rfl, fun w' hS' => by kernel_rfl⟩) hS ?_
          refine anyS_take 6 (v := .slice (some ⟨b, off, none⟩) n c) rfl (by kernel_rfl) (by kernel_rfl) (by kernel_rfl) (by kernel_rfl) (fun _ _ _ h => h) (.inl ⟨by kernel_rfl, fun w' hS' => by kernel_rfl⟩) hS ?_
          refine anyS_take 7 (v := .int .i64 (2 + (X : Int))) rfl (by kernel_rfl) (by kernel_rfl) (by kernel_rfl) (by kernel_rfl) (fun _ _ _ h => h) (.inl ⟨by kernel_rfl, fun w' hS' => by kernel_rfl⟩) hS ?_
          refine anyS_take 8 (v := .slice (some ⟨b, off, none⟩) (2 + X) c) rfl (by kernel_rfl) (by kernel_rfl) (by kernel_rfl) (by kernel_rfl) (fun _ _ _ h => h) (.inl ⟨by kernel_rfl, fun w' hS' => by (go_simp; exact fun h => absurd (h (by omega)) (by omega))⟩) hS ?_
          refine anyS_take 10 (v := .slice (some ⟨b, off, none⟩) n c) rfl (by kernel_rfl) (by kernel_rfl) (by kernel_rfl) (by kernel_rfl) (fun _ _ _ h => h) (.inl ⟨by kernel_rfl, fun w' hS' => by kernel_rfl⟩) hS ?_
          refine anyS_take 11 (v := .int .i64 (2 + (X : Int))) rfl (by kernel_rfl) (by kernel_rfl) (by kernel_rfl) (by kernel_rfl) (fun _ _ _ h => h) (.inl ⟨by kernel_rfl, fun w' hS' => by kernel_rfl⟩) hS ?_
          refine anyS_take 12 (v := .pointer (some ⟨b, off + (2 + X), none⟩)) rfl (by kernel_rfl) (by kernel_rfl) (by kernel_rfl) (by kernel_rfl) (fun _ _ _ h => h) (.inl ⟨by kernel_rfl, fun w' hS' => by (go_simp; exact fun h => absurd (h (by omega)) (by omega))⟩) hS ?_
          refine anyS_take 13 (v := .int .u8 (Y : Int)) rfl (by kernel_rfl) (by kernel_rfl) (by kernel_rfl) (by kernel_rfl) (fun _ _ _ h => h) (.inl ⟨by kernel_rfl, fun w' hS' => by (obtain ⟨k1, k2⟩ := hS'; go_simp)⟩) hS ?_
          refine anyS_take 14 (v := .slice (some ⟨b, off, none⟩) n c) rfl (by kernel_rfl) (by kernel_rfl) (by kernel_rfl) (by kernel_rfl) (fun _ _ _ h => h) (.inl ⟨by kernel_rfl, fun w' hS' => by kernel_rfl⟩) hS ?_
          refine anyS_take 15 (v := .int .i64 (2 + (X : Int))) rfl (by kernel_rfl) (by kernel_rfl) (by kernel_rfl) (by kernel_rfl) (fun _ _ _ h => h) (.inl ⟨by kernel_rfl, fun w' hS' => by kernel_rfl⟩) hS ?_
          refine anyS_take 16 (v := .int .i64 (2 + (X : Int) + 1)) rfl (by kernel_rfl) (by kernel_rfl) (by kernel_rfl) (by kernel_rfl) (fun _ _ _ h => h) (.inl ⟨by kernel_rfl, fun w' hS' => by go_simp⟩) hS ?_
          refine anyS_take 17 (v := .pointer (some ⟨b, off + (2 + X + 1), none⟩)) rfl (by kernel_rfl) (by kernel_rfl) (by kernel_rfl) (by kernel_rfl) (fun _ _ _ h => h) (.inl ⟨by kernel_rfl, fun w' hS' => by (go_simp; exact fun h => absurd (h (by omega)) (by omega))⟩) hS ?_
          refine anyS_take 18 (v := .int .u8 (Z : Int)) rfl (by kernel_rfl) (by kernel_rfl) (by kernel_rfl) (by kernel_rfl) (fun _ _ _ h => h) (.inl ⟨by kernel_rfl, fun w' hS' => by (obtain ⟨k1, k2⟩ := hS'; go_simp)⟩) hS ?_
          refine anyS_take 19 (v := .agg #[.int .u8 (Y : Int), .int .u8 (Z : Int)]) rfl (by kernel_rfl) (by kernel_rfl) (by kernel_rfl) (by kernel_rfl) (fun _ _ _ h => h) (.inl ⟨by kernel_rfl, fun w' hS' => by go_simp⟩) hS ?_
          refine anyS_oneG 9 rfl (by kernel_rfl) (by kernel_rfl) ?_
          intro K hK
          go_simp
          refine (checksum_any (some ⟨b, off, none⟩) (2 + X) c _ w.drew HhC.out (by omega)).mono ?_
          rintro e w2 ⟨rfl, hb2⟩
          have hS2 : w2.cell? ⟨b, off + (2 + X), none⟩ = some (.int .u8 (Y : Int)) ∧ w2.cell? ⟨b, off + (2 + X + 1), none⟩ = some (.int .u8 (Z : Int)) := ⟨(hb2.cell (p := ⟨b, off + (2 + X), none⟩) hb).trans hcE, (hb2.cell (p := ⟨b, off + (2 + X + 1), none⟩) hb).trans hcF⟩
          have Hb2 := Lib.hid (show Below w.heap.size w w2 from (below_drewN (Below.refl _ _) 1).trans hb2)
          obtain ⟨s1, hs1⟩ : ∃ s1, (sums (x :: f :: rest.take X)).1 = s1 := ⟨_, rfl⟩
          obtain ⟨s2, hs2⟩ : ∃ s2, (sums (x :: f :: rest.take X)).2 = s2 := ⟨_, rfl⟩
          rw [hs1, hs2] at Hff ⊢
          clear hs1 hs2
          refine hK _ _ ⟨fun _ => hS2, ?_⟩
          clear hK
          by_cases hsum : s1 = Y ∧ s2 = Z
          · obtain ⟨rfl, rfl⟩ := hsum
            have hff2 := Hff.out
            rw [if_pos ⟨rfl, rfl⟩] at hff2
            have H := Lib.hid (ffV_some (A := some ⟨b, off, none⟩) (c := c) hff2)
            have hrl : (rest.take X).length = X := by have := Hl.out; simp at this; rw [List.length_take]; omega
            rw [hrl] at H
            clear Hff hff2 hrl
            refine anyS_take 20 (v := .bool false) rfl (by kernel_rfl) (by kernel_rfl) (by kernel_rfl) (by kernel_rfl) (fun _ _ _ h => h) (.inl ⟨by kernel_rfl, fun w' hS' => by go_simp⟩) hS2 ?_
            refine anyS_take 21 (v := .bool false) rfl (by kernel_rfl) (by kernel_rfl) (by kernel_rfl) (by kernel_rfl) (fun _ _ _ h => h) (.inl ⟨by kernel_rfl, fun w' hS' => by go_simp⟩) hS2 ?_
            refine anyS_done (by kernel_rfl) ?_
            go_wp2
            go_ret
            exact ⟨by rw [H.out, show X + 4 = 2 + X + 2 by omega]; rfl, Hb2.out⟩
          · have hff2 := Hff.out
            rw [if_neg hsum] at hff2
            have H := Lib.hid (ffV_none (A := some ⟨b, off, none⟩) (c := c) hff2)
            clear Hff hff2
            refine anyS_take 20 (v := .bool true) rfl (by kernel_rfl) (by kernel_rfl) (by kernel_rfl) (by kernel_rfl) (fun _ _ _ h => h) (.inl ⟨by kernel_rfl, fun w' hS' => by (go_simp; omega)⟩) hS2 ?_
            refine anyS_take 21 (v := .bool true) rfl (by kernel_rfl) (by kernel_rfl) (by kernel_rfl) (by kernel_rfl) (fun _ _ _ h => h) (.inl ⟨by kernel_rfl, fun w' hS' => by go_simp⟩) hS2 ?_
            refine anyS_done (by kernel_rfl) ?_
            go_wp2
            go_ret
            exact ⟨by rw [H.out]; rfl, Hb2.out⟩
    · have H := Lib.hid (ffV_none (A := some ⟨b, off, none⟩) (c := c) (ff_no1 (x := x) (f := f) (rest := rest) (by rw [HX.out]; exact h3)))
      rw [H.out]
      have hf : (decide (1 ≤ X) && decide (X ≤ 60)) = false := by simp; omega
      rw [hf] at hrs
      have Hrs := Lib.hid hrs
      clear hrs
      go_enter Try.func70, Try.ntmps70
      go_wp2_with fail
      refine Hrs.out.mono ?_
      rintro e w1 ⟨rfl, rfl⟩
      go_wp2
      go_ret
      exact ⟨rfl, Below.refl _ _⟩
end Go.Proofs.Ytploicbiapjfdaa
