/- Package sign: what each public call returns. -/
import Derived.Test.YtafgaknhdiipdaaSgX
namespace Go.Proofs.Ytafgaknhdiipdaa
set_option linter.unusedVariables false
set_option linter.unusedSimpArgs false
open Go.RowKit
/-- What Public, Hash, Make, Check and Secret return, as the document says it. -/
def publicR (x : Int) : Nat × Int := if isSec x then (pw 4 x.toNat % 7823, 0) else (0, 2)
def hashR (r : Int) (n : Nat) (l : List UInt8) : Nat × Int := if 0 ≤ r ∧ r < 7823 then (if 600 < n then (0, 1) else (hsh r.toNat l, 0)) else (0, 2)
def makeR (x k : Int) (n : Nat) (l : List UInt8) : Nat × Nat × Int :=
  if isSec x && isSec k then (if 600 < n then (0, 0, 1) else (pw 4 k.toNat % 7823, (k.toNat + x.toNat * hsh (pw 4 k.toNat % 7823) l) % 3911, 0)) else (0, 0, 2)
def checkR (p : Int) (n : Nat) (l : List UInt8) (r s : Int) : Int :=
  if isPub p && (isPub r && okS s) then (if 600 < n then 1 else if pw 4 s.toNat % 7823 = r.toNat * (pw p.toNat (hsh r.toNat l) % 7823) % 7823 then 0 else 9) else 2
def intsV (a : Nat) (e : Int) : Value := .tuple #[.int .i64 a, .int .i64 e]
theorem public_any (x : Int) (w : World) :
    Calls Try.prog 14 #[.int .i64 x] w fun e w' => e = .returned (intsV (publicR x).1 (publicR x).2) ∧ w = w' := by
  cases hs : isSec x
  · have H := Lib.hid (show publicR x = (0, 2) by unfold publicR; rw [hs]; rfl)
    rw [H.out]
    go_enter Try.func14, Try.ntmps14
    go_wp2_with fail
    refine (isSecret_any x _).mono ?_
    rintro e w1 ⟨rfl, rfl⟩
    rw [hs]
    go_wp2
    go_ret2
    exact ⟨rfl, rfl⟩
  · have hx : 1 ≤ x ∧ x < 3911 := by simpa [isSec] using hs
    have H := Lib.hid (show publicR x = (pw 4 x.toNat % 7823, 0) by unfold publicR; rw [hs]; rfl)
    rw [H.out]
    clear H
    obtain ⟨n, rfl⟩ : ∃ n : Nat, x = n := ⟨x.toNat, by omega⟩
    rw [Int.toNat_natCast]
    go_enter Try.func14, Try.ntmps14
    go_wp2_with fail
    refine (isSecret_any n _).mono ?_
    rintro e w1 ⟨rfl, rfl⟩
    rw [hs]
    go_wp2_with fail
    refine (power_any 4 n 7823 _ (by decide) (by omega) (by decide) (by decide)).mono ?_
    rintro e w1 ⟨rfl, rfl⟩
    go_wp2
    go_ret2
    exact ⟨rfl, rfl⟩
set_option maxRecDepth 100000 in
theorem hashP_any (r : Int) (A : Option Addr) (n c : Nat) (l : List UInt8) (w : World) (hh : Holds w w.heap.size 1 A n (l.map bv)) :
    Calls Try.prog 16 #[.int .i64 r, .slice A n c] w fun e w' => e = .returned (intsV (hashR r n l).1 (hashR r n l).2) ∧ ∃ k, w' = w.drewN k := by
  by_cases hr : 0 ≤ r ∧ r < 7823
  · obtain ⟨r0, r1⟩ := hr
    by_cases hn : 600 < n
    · have H := Lib.hid (show hashR r n l = (0, 1) by unfold hashR; rw [if_pos ⟨r0, r1⟩, if_pos hn])
      have hd : decide (600 < n) = true := decide_eq_true hn
      rw [H.out]
      go_enter Try.func16, Try.ntmps16
      go_wp2_with fail
      refine (isLong_any A n c _).mono ?_
      rintro e w1 ⟨rfl, rfl⟩
      rw [hd]
      go_wp2
      go_ret2
      exact ⟨rfl, 0, rfl⟩
    · have H := Lib.hid (show hashR r n l = (hsh r.toNat l, 0) by unfold hashR; rw [if_pos ⟨r0, r1⟩, if_neg hn])
      have hd : decide (600 < n) = false := decide_eq_false hn
      rw [H.out]
      clear H
      obtain ⟨m, rfl⟩ : ∃ m : Nat, r = m := ⟨r.toNat, by omega⟩
      rw [Int.toNat_natCast]
      go_enter Try.func16, Try.ntmps16
      go_wp2_with fail
      refine (isLong_any A n c _).mono ?_
      rintro e w1 ⟨rfl, rfl⟩
      rw [hd]
      go_wp2_with fail
      refine (hash_any m A n c l _ (by omega) hh (by omega)).mono ?_
      rintro e w1 ⟨rfl, k, rfl⟩
      go_wp2
      go_ret2
      exact ⟨rfl, k, rfl⟩
  · have H := Lib.hid (show hashR r n l = (0, 2) by unfold hashR; rw [if_neg hr])
    rw [H.out]
    by_cases h0 : 0 ≤ r
    · have h1 : 7823 ≤ r := by omega
      go_enter Try.func16, Try.ntmps16
      go_wp2
      go_ret2
      exact ⟨rfl, 0, rfl⟩
    · have h1 : r < 0 := by omega
      go_enter Try.func16, Try.ntmps16
      go_wp2
      go_ret2
      exact ⟨rfl, 0, rfl⟩
theorem sec_nat {x : Int} (h : isSec x = true) : ∃ n : Nat, x = n ∧ 1 ≤ n ∧ n < 3911 := by
  have hx : 1 ≤ x ∧ x < 3911 := by simpa [isSec] using h
  exact ⟨x.toNat, by omega, by omega, by omega⟩
theorem pub_nat {x : Int} (h : isPub x = true) : ∃ n : Nat, x = n ∧ 2 ≤ n ∧ n < 7823 ∧ pw n 3911 % 7823 = 1 := by
  unfold isPub at h
  rw [Bool.and_eq_true, decide_eq_true_eq, decide_eq_true_eq] at h
  exact ⟨x.toNat, by omega, by omega, by omega, h.2⟩
theorem okS_nat {x : Int} (h : okS x = true) : ∃ n : Nat, x = n ∧ n < 3911 := by
  have hx : 0 ≤ x ∧ x < 3911 := by simpa [okS] using h
  exact ⟨x.toNat, by omega, by omega⟩
def signV (r s : Nat) : Value := .agg #[.int .i64 r, .int .i64 s]
def makeV (m : Nat × Nat × Int) : Value := .tuple #[signV m.1 m.2.1, .int .i64 m.2.2]
theorem prod_lt' {a b : Nat} (ha : a < 3911) (hb : b < 3911) : (a : Int) * (b : Int) ≤ 61199329 ∧ 0 ≤ (a : Int) * (b : Int) := prod_lt (by omega) (by omega)
/-- The end of a function whose first result is a signature in memory. -/
theorem ret_sign {fn : Func} {R : Ending → World → Prop} {a : Act} {W : World} {g : Nat} {s1 s2 : Tmp} {b x0 x1 : Value}
    (hf : fn.results = #[.cell s1 30, .tmp s2]) (h1 : a.tmps.getD s1 undef = .pointer (some ⟨g, 0, none⟩)) (h2 : a.tmps.getD s2 undef = b)
    (c0 : W.cell? ⟨g, 0, none⟩ = some x0) (c1 : W.cell? ⟨g, 1, none⟩ = some x1) (hd : a.defers = []) (hR : R (.returned (.tuple #[.agg #[x0, x1], b])) W) : bodyPost Try.prog fn R .ret a W := by
  refine bodyPost_ret ?_ hd hR
  simp only [Array.getD_eq_getD_getElem?] at h1 h2
  simp [results, hf, h1, h2, go_sem, c0, c1]
set_option maxRecDepth 100000 in
theorem make_any (x k : Int) (A : Option Addr) (n c : Nat) (l : List UInt8) (w : World) (hh : Holds w w.heap.size 1 A n (l.map bv)) :
    Calls Try.prog 18 #[.int .i64 x, .int .i64 k, .slice A n c] w fun e w' => e = .returned (makeV (makeR x k n l)) ∧ Below w.heap.size w w' := by
  have hbz := (Below.refl w.heap.size w).alloc (Nat.le_refl _) (.cells #[.int .i64 0, .int .i64 0] 30)
  cases hx : isSec x
  · have H := Lib.hid (show makeR x k n l = (0, 0, 2) by unfold makeR; rw [hx]; rfl)
    rw [H.out]
    go_enter Try.func18, Try.ntmps18
    go_wp2_with fail
    refine (isSecret_any x _).mono ?_
    rintro e w1 ⟨rfl, rfl⟩
    rw [hx]
    go_wp2
    refine ret_sign (by rfl) (by rfl) (by rfl) (x0 := .int .i64 0) (x1 := .int .i64 0) ?_ ?_ (by rfl) ?_
    · simp [go_sem]
    · simp [go_sem]
    · exact ⟨rfl, hbz⟩
  cases hk : isSec k
  · have H := Lib.hid (show makeR x k n l = (0, 0, 2) by unfold makeR; rw [hx, hk]; rfl)
    rw [H.out]
    go_enter Try.func18, Try.ntmps18
    go_wp2_with fail
    refine (isSecret_any x _).mono ?_
    rintro e w1 ⟨rfl, rfl⟩
    rw [hx]
    go_wp2_with fail
    refine (isSecret_any k _).mono ?_
    rintro e w1 ⟨rfl, rfl⟩
    rw [hk]
    go_wp2
    refine ret_sign (by rfl) (by rfl) (by rfl) (x0 := .int .i64 0) (x1 := .int .i64 0) ?_ ?_ (by rfl) ?_
    · simp [go_sem]
    · simp [go_sem]
    · exact ⟨rfl, hbz⟩
  by_cases hn : 600 < n
  · have H := Lib.hid (show makeR x k n l = (0, 0, 1) by unfold makeR; rw [hx, hk, Bool.true_and, if_pos rfl, if_pos hn])
    have hd : decide (600 < n) = true := decide_eq_true hn
    rw [H.out]
    go_enter Try.func18, Try.ntmps18
    go_wp2_with fail
    refine (isSecret_any x _).mono ?_
    rintro e w1 ⟨rfl, rfl⟩
    rw [hx]
    go_wp2_with fail
    refine (isSecret_any k _).mono ?_
    rintro e w1 ⟨rfl, rfl⟩
    rw [hk]
    go_wp2_with fail
    refine (isLong_any A n c _).mono ?_
    rintro e w1 ⟨rfl, rfl⟩
    rw [hd]
    go_wp2
    refine ret_sign (by rfl) (by rfl) (by rfl) (x0 := .int .i64 0) (x1 := .int .i64 0) ?_ ?_ (by rfl) ?_
    · simp [go_sem]
    · simp [go_sem]
    · exact ⟨rfl, hbz⟩
  · have H := Lib.hid (show makeR x k n l = (pw 4 k.toNat % 7823, (k.toNat + x.toNat * hsh (pw 4 k.toNat % 7823) l) % 3911, 0) by unfold makeR; rw [hx, hk, Bool.true_and, if_pos rfl, if_neg hn])
    have hd : decide (600 < n) = false := decide_eq_false hn
    rw [H.out]
    clear H
    obtain ⟨a, rfl, ha1, ha2⟩ := sec_nat hx
    obtain ⟨b, rfl, hb1, hb2⟩ := sec_nat hk
    rw [Int.toNat_natCast, Int.toNat_natCast]
    have hrl := Nat.mod_lt (pw 4 b) (show 0 < 7823 by decide)
    obtain ⟨r, hr⟩ : ∃ r, pw 4 b % 7823 = r := ⟨_, rfl⟩
    rw [hr] at hrl ⊢
    have hpl := prod_lt' ha2 (hsh_lt r l)
    have hHl := hsh_lt r l
    obtain ⟨h, hhr⟩ : ∃ h, hsh r l = h := ⟨_, rfl⟩
    rw [hhr] at hpl hHl ⊢
    have Hr := Lib.hid hr
    have Hh := Lib.hid hhr
    clear hr hhr
    go_enter Try.func18, Try.ntmps18
    go_wp2_with fail
    refine (isSecret_any a _).mono ?_
    rintro e w1 ⟨rfl, rfl⟩
    rw [hx]
    go_wp2_with fail
    refine (isSecret_any b _).mono ?_
    rintro e w1 ⟨rfl, rfl⟩
    rw [hk]
    go_wp2_with fail
    refine (isLong_any A n c _).mono ?_
    rintro e w1 ⟨rfl, rfl⟩
    rw [hd]
    go_wp2_with fail
    refine (power_any 4 b 7823 _ (by decide) (by omega) (by decide) (by decide)).mono ?_
    rintro e w1 ⟨rfl, rfl⟩
    rw [Hr.out]
    have hA := Lib.hid ((hh.alloc (Nat.le_refl _) (.cells #[.int .i64 0, .int .i64 0] 30)).wider (show w.heap.size ≤ (w.alloc (.cells #[.int .i64 0, .int .i64 0] 30)).heap.size by simp))
    go_wp2_with fail
    refine (hash_any r A n c l _ hrl (hA.out) (by omega)).mono ?_
    rintro e w1 ⟨rfl, q, rfl⟩
    rw [Hh.out]
    go_wp2_with fail
    refine ret_sign (by rfl) (by rfl) (by rfl) (x0 := .int .i64 r) (x1 := .int .i64 ((b + a * h) % 3911 : Nat)) ?_ ?_ (by rfl) ?_
    · simp [go_sem]
    · simp [go_sem]
    · exact ⟨rfl, ((below_drewN hbz q).setCell (Nat.le_refl _) _).setCell (Nat.le_refl _) _⟩
end Go.Proofs.Ytafgaknhdiipdaa
