/- Proved here: Find returns the last change of a key (statement RowsLast). No condition. -/
import Derived.Test.YtecpccdmmaigiaaRwOf
import Derived.Test.YtecpccdmmaigiaaOpenI
namespace Go.Proofs.Ytecpccdmmaigiaa
set_option linter.unusedVariables false
set_option linter.unusedSimpArgs false
open Go.RowKit
/-- What was wanted, row by row. -/
theorem lastOf_step {cs : List Rw} {k d : List UInt8} {j : Nat} (hj : j < cs.length) : lastOf (cs.take (j + 1)) k d = if cs[j].key = k then cs[j].val else lastOf (cs.take j) k d := by
  have app : ∀ (a : List Rw) (c : Rw) (d : List UInt8), lastOf (a ++ [c]) k d = if c.key = k then c.val else lastOf a k d := by
    intro a
    induction a with
    | nil => intro c d; rfl
    | cons x a ih => intro c d; rw [List.cons_append, lastOf, ih, lastOf]
  rw [List.take_succ_eq_append_getElem hj, app]
def LsL (cs : List Rw) (k : List UInt8) (w0 : World) (n : Nat) (gk : Nat) (s11 s12 : Value) (wr : World) : Prop :=
  ∃ j : Nat, s12 = .int .i64 (j : Int) ∧ j ≤ n ∧ gk = n - j ∧ s11 = str (lastOf (cs.take j) k []) ∧ wr = w0
set_option maxHeartbeats 2000000 in
set_option maxRecDepth 100000 in
theorem walkRowsLast (A0 : Option Addr) (n0 c0 : Nat) (x1 : Int) (w : World) (hx0 : IntsAt w w.heap.size A0 n0 c0) (hx1 : -9223372036854775808 ≤ x1 ∧ x1 ≤ 9223372036854775807) :
    Calls Try.prog 8 #[.slice A0 n0 c0, .int .i64 x1] w fun e w' => e = .returned (.bool true) ∧ Below w.heap.size w w' := by
  have H1 := Lib.hid (changes_any A0 n0 c0 w.heap.size 50 w hx0 (Nat.le_refl _) (by decide))
  have Hx1 := Lib.hid hx1
  clear hx0
  go_enter Try.func8, Try.ntmps8
  go_wp2_with fail
  refine H1.out.mono ?_
  rintro e w1 ⟨v1, cs, rfl, ho1, hlen, hdr, b1⟩
  obtain ⟨A1, c1, rfl, hin1⟩ := RIn.own ho1
  have Hdr := Lib.hid hdr
  have B1 := Lib.hid b1
  have Hin1 := Lib.hid hin1
  have H2 := Lib.hid (rowsOf_any A1 cs.length c1 _ cs w1 hin1 (Nat.le_refl _) (by omega) hdr)
  obtain ⟨n1, hn1⟩ : ∃ n1, cs.length = n1 := ⟨_, rfl⟩
  have Hn1 := Lib.hid hn1
  rw [hn1] at H2 Hin1 hlen ⊢
  have hlen50 : n1 ≤ 50 := by omega
  clear ho1 hin1 b1 hdr H1 hn1 hlen
  go_wp2_with fail
  refine H2.out.mono ?_
  rintro e w2 ⟨v2, rfl, ho2, b2⟩
  obtain ⟨A2, c2, rfl, hin2⟩ := RIn.own ho2
  have T1 := Lib.hid (Tbl.nil.setsT Hdr.out)
  have hl2 := T1.out.len
  have Hin2 := Lib.hid hin2
  have B12 := Lib.hid b2
  have B2 := Lib.hid (B1.out.trans (b2.mono B1.out.size))
  obtain ⟨n2, hn2⟩ : ∃ n2, (sets [] cs).length = n2 := ⟨_, rfl⟩
  have Hn2 := Lib.hid hn2
  rw [hn2] at hl2 Hin2 ⊢
  clear ho2 hin2 b2 H2 hn2
  obtain ⟨w3, hw3⟩ : ∃ w3, w3 = w2.alloc (.cells #[.int .i64 x1] 3) := ⟨_, rfl⟩
  have hB3 : Blk w3 w2.heap.size 3 #[.int .i64 x1] := by rw [hw3]; exact Blk.new w2 _ _
  have hb3 : Below w2.heap.size w2 w3 := by rw [hw3]; exact (Below.refl _ _).alloc (Nat.le_refl _) _
  have hints : IntsAt w3 w3.heap.size (some ⟨w2.heap.size, 0, none⟩) 1 1 := by
    refine ⟨[x1], ⟨rfl, fun _ => ⟨w2.heap.size, 0, rfl, hB3.lt, fun j u hu => ?_⟩⟩, Nat.le_refl _, by omega, fun z hz => ?_⟩
    · rw [Nat.zero_add, hB3.cell j]; simpa using hu
    · simp at hz; subst hz; exact Hx1.out
  have HK := Lib.hid hw3
  have B3 := Lib.hid hb3
  have H3 := Lib.hid (changes_any (some ⟨w2.heap.size, 0, none⟩) 1 1 _ 1 w3 hints (Nat.le_refl _) (by decide))
  clear hw3 hB3 hb3 hints
  go_wp2_with fail
  rw [← HK.out]
  refine H3.out.mono ?_
  rintro e w4 ⟨v4, ks, rfl, ho4, hlen4, hdr4, b4⟩
  replace hlen4 : ks.length = 1 := hlen4
  obtain ⟨A4, c4, rfl, hin4⟩ := RIn.own ho4
  obtain ⟨b, off, hA, hbB, d0, d1⟩ := hin4.at_ (i := 0) (by omega)
  subst hA
  obtain ⟨key, hkey⟩ : ∃ key, ks[0].key = key := ⟨_, rfl⟩
  rw [hkey] at d0
  replace d0 : w4.cell? ⟨b, off, none⟩ = some (str key) := by simpa using d0
  have hkl : key.length ≤ 20 := by
    have := (sized_short (List.all_eq_true.1 (drawn_good hdr4) ks[0] (List.getElem_mem _))).1
    rwa [hkey] at this
  have B4 := Lib.hid (B3.out.trans (b4.mono B3.out.size))
  rw [hlen4]
  clear ho4 hin4 b4 H3 d1 hkey hdr4 hlen4
  have H5 := Lib.hid (copR_any A2 n2 c2 _ _ w4 (Hin2.out.below B4.out) B4.out.size (by omega))
  go_wp2_with fail
  refine H5.out.mono ?_
  rintro e w5 ⟨v5, rfl, ho5, b5⟩
  obtain ⟨A5, c5, rfl, hin5⟩ := RIn.own ho5
  have H6 := Lib.hid (find_any A5 n2 c5 _ (sets [] cs) key w5 hin5 (Nat.le_refl _) T1.out.short (by omega) (by omega))
  have B5 := Lib.hid (B4.out.trans (b5.mono B4.out.size))
  obtain ⟨fv, hfv⟩ : ∃ fv, lastOf cs key [] = fv := ⟨_, rfl⟩
  have hfn : findN (sets [] cs) key = if fv = [] then ([], 8) else (fv, 0) := by
    unfold findN
    have hlk : look (sets [] cs) key = fv := by rw [look_sets (show srt [] from trivial)]; exact hfv
    rw [if_neg (by rw [T1.out.fit.chk]; simp), hlk]
  rw [hfn] at H6
  have Hfv := Lib.hid hfv
  clear ho5 hin5 b5 H5 hfn hfv d0
  go_wp2_with fail
  refine H6.out.mono ?_
  rintro e w6 ⟨rfl, b6⟩
  have B6 := Lib.hid (B5.out.trans (b6.mono B5.out.size))
  have HX := Lib.hid (B2.out.trans (B6.out.mono B2.out.size))
  have L16 := Lib.hid (B12.out.trans (B6.out.mono B12.out.size))
  have H7 := Lib.hid (check_any A2 n2 c2 w2.heap.size (sets [] cs) w6 (Hin2.out.below B6.out) B6.out.size T1.out.short (by omega))
  rw [T1.out.fit.chk] at H7
  clear b6 H6
  by_cases hf0 : fv = []
  · rw [if_pos hf0]
    have hfb : fv.isEmpty = true := by rw [hf0]; rfl
    go_wp2_with fail
    go_loopg [11, 12] n1 (LsL cs key w6 n1)
    case atStart => exact ⟨0, rfl, Nat.zero_le _, by omega, rfl, rfl⟩
    case round =>
      obtain ⟨j, rfl, hj, hgk, rfl, rfl⟩ := hrel
      have Hgk := Lib.hid hgk
      clear hgk
      by_cases hjn : j < n1
      · have hjl : j < cs.length := by rw [Hn1.out]; exact hjn
        obtain ⟨b', off', hA, hbB', e0, e1⟩ := (Hin1.out.below L16.out).at_ hjl
        subst hA
        have HT := Lib.hid (lastOf_step (k := key) (d := []) hjl)
        generalize cs[j] = r at *
        obtain ⟨rk, rv⟩ := r
        simp only at e0 e1
        have hi1 : (j : Int) < (n1 : Int) := by omega
        by_cases hk : rk = key
        · have hkb : (rk == key) = true := by simpa using hk
          have HT' := Lib.hid (show rv = lastOf (cs.take (j + 1)) key [] by rw [HT.out, if_pos hk])
          clear HT hk
          generalize lastOf (cs.take j) key [] = cur at *
          go_wp2_with fail
          go_roundg (n1 - (j + 1))
          case measure => have := Hgk.out; omega
          case rel => exact ⟨j + 1, by go_num, by omega, rfl, by rw [← HT'.out], rfl⟩
        · have hkb : (rk == key) = false := by simpa using hk
          have HT' := Lib.hid (show lastOf (cs.take j) key [] = lastOf (cs.take (j + 1)) key [] by rw [HT.out, if_neg hk])
          clear HT hk
          generalize hcur : lastOf (cs.take j) key [] = cur at *
          go_wp2_with fail
          go_roundg (n1 - (j + 1))
          case measure => have := Hgk.out; omega
          case rel => exact ⟨j + 1, by go_num, by omega, rfl, by rw [← HT'.out], rfl⟩
      · have hj2 : j = cs.length := by have := Hn1.out; omega
        have HL : lastOf (cs.take j) key [] = [] := by rw [hj2, List.take_length, Hfv.out, hf0]
        rw [HL]
        clear hj2 HL hf0
        go_wp2_with (first | (go_at_call 14; refine H7.out.mono ?_; rintro e w7 ⟨rfl, b7⟩; have HY := Lib.hid (HX.out.trans (b7.mono HX.out.size)); clear b7) | fail)
        go_ret
        exact ⟨rfl, HY.out⟩
  · rw [if_neg hf0]
    have hfb : fv.isEmpty = false := by cases fv <;> simp_all
    go_wp2_with fail
    go_loopg [11, 12] n1 (LsL cs key w6 n1)
    case atStart => exact ⟨0, rfl, Nat.zero_le _, by omega, rfl, rfl⟩
    case round =>
      obtain ⟨j, rfl, hj, hgk, rfl, rfl⟩ := hrel
      have Hgk := Lib.hid hgk
      clear hgk
      by_cases hjn : j < n1
      · have hjl : j < cs.length := by rw [Hn1.out]; exact hjn
        obtain ⟨b', off', hA, hbB', e0, e1⟩ := (Hin1.out.below L16.out).at_ hjl
        subst hA
        have HT := Lib.hid (lastOf_step (k := key) (d := []) hjl)
        generalize cs[j] = r at *
        obtain ⟨rk, rv⟩ := r
        simp only at e0 e1
        have hi1 : (j : Int) < (n1 : Int) := by omega
        by_cases hk : rk = key
        · have hkb : (rk == key) = true := by simpa using hk
          have HT' := Lib.hid (show rv = lastOf (cs.take (j + 1)) key [] by rw [HT.out, if_pos hk])
          clear HT hk
          generalize lastOf (cs.take j) key [] = cur at *
          go_wp2_with fail
          go_roundg (n1 - (j + 1))
          case measure => have := Hgk.out; omega
          case rel => exact ⟨j + 1, by go_num, by omega, rfl, by rw [← HT'.out], rfl⟩
        · have hkb : (rk == key) = false := by simpa using hk
          have HT' := Lib.hid (show lastOf (cs.take j) key [] = lastOf (cs.take (j + 1)) key [] by rw [HT.out, if_neg hk])
          clear HT hk
          generalize hcur : lastOf (cs.take j) key [] = cur at *
          go_wp2_with fail
          go_roundg (n1 - (j + 1))
          case measure => have := Hgk.out; omega
          case rel => exact ⟨j + 1, by go_num, by omega, rfl, by rw [← HT'.out], rfl⟩
      · have hj2 : j = cs.length := by have := Hn1.out; omega
        have HL : lastOf (cs.take j) key [] = fv := by rw [hj2, List.take_length, Hfv.out]
        rw [HL]
        clear hj2 HL hf0
        go_wp2_with (first | (go_at_call 14; refine H7.out.mono ?_; rintro e w7 ⟨rfl, b7⟩; have HY := Lib.hid (HX.out.trans (b7.mono HX.out.size)); clear b7) | fail)
        go_ret
        exact ⟨rfl, HY.out⟩
namespace rowsLast
open Go.ChangeShapes Go.WideShapes Go.ChangeAt Go.RowKit
theorem own : ownKnob Try.prog.godebug = none := by kernel_rfl
theorem laidOut : laidOutB Try.prog = true := by kernel_rfl
set_option linter.unusedVariables false
set_option maxRecDepth 100000 in
theorem lifted (os : Os) (started : os.Started) (H : Type) (enc : TypeId × Value → H) :
    ReturnsInHanded {} Try.checked os 8 .any (Rows.rowsLastSpec.pre6 enc Try.prog Try.f8 Rows.rowsLastRow.domain false) (Rows.rowsLastSpec.post enc Try.prog Try.f8 false true false false) := by
  refine returnsInHanded_of_change (C := Try.checked) own started (by kernel_rfl) Try.func8
    (ChangeSpec.witness6 (enc := enc) (C := Try.checked) false ⟨#[], #[.slice none 0 0, .int .i64 0], []⟩ 8 (by kernel_rfl) (by kernel_rfl) (by kernel_rfl) (by kernel_rfl)) ?_
  intro W base args ds gs before hval0 hW hcnd _
  have hval : ∀ (j : Nat) t v, Try.f8.params[j]? = some t → args[j]? = some v → Value.okWide Try.prog W .any base t v := hval0
  have hW' := hW
  obtain ⟨p, q, hA0, hV, rfl, hfz, hnd⟩ := hW
  have hA : DataW.TrodAll enc Try.prog W 0 (fun _ => true) true Try.f8.params.toList args.toList ds p := hA0
  rw [Try.params8] at hA hval
  obtain ⟨v0, vs0, d0, ds0, p0, q0, hargs, rfl, rfl, h0, rr0⟩ := trodAll_cons hA
  obtain ⟨v1, vs1, d1, ds1, p1, q1, rfl, rfl, rfl, h1, rr1⟩ := trodAll_cons rr0
  obtain ⟨rfl, rfl, rfl⟩ := trodAll_nil rr1
  obtain rfl : args = #[v0, v1] := by cases args; simp_all
  obtain ⟨rfl, rfl⟩ := trodVars_none hV
  have k0 := h0
  have lt0 : ∀ x ∈ p0, x.block < W.heap.size := by obtain ⟨m, hm⟩ := k0; exact DataW.trod_lt m _ _ _ hm
  obtain ⟨A0, n0, c0, rfl, hx0⟩ := open_intsl Try.underlying35 Try.underlying3 (by kernel_rfl) (hval 0 35 v0 rfl rfl) h0
  have k1 := h1
  have lt1 : ∀ x ∈ p1, x.block < W.heap.size := by obtain ⟨m, hm⟩ := k1; exact DataW.trod_lt m _ _ _ hm
  obtain ⟨x1, rfl, hx1⟩ := open_i64 Try.underlying3 (hval 1 3 v1 rfl rfl) h1
  clear hA0 hval0
  refine (walkRowsLast A0 n0 c0 x1 W hx0 hx1).mono fun e W' ⟨he, bel⟩ => ?_
  subst he
  exact ⟨_, rfl, _, _, _, [], _, [], hW', trodAll_mk1 (shut_bool Try.underlying4 _), (trodAll_cons_mk (Below.trod laidOut (by kernel_rfl) (of_decide_eq_true (by kernel_rfl)) k0 bel lt0) (trodAll_cons_mk (Below.trod laidOut (by kernel_rfl) (of_decide_eq_true (by kernel_rfl)) k1 bel lt1) trodAll_mk0)), rfl, bel.frame _, fun h => by cases h⟩

theorem over : Rows.rowsLastRow.holds Try.pinned (OpenSpec.ofChange Rows.rowsLastSpec) :=
  OpenClaim.holds_of_wide 8 Try.f8 rfl rfl rfl rfl rfl rfl rfl ⟨rfl, rfl, rfl, rfl, rfl⟩ rfl rfl rfl rfl rfl (by kernel_rfl) Try.func8 (by kernel_rfl)
    (of_decide_eq_true (by kernel_rfl)) (by unfold Func.isWrapper; first | (rw [if_pos (by decide +kernel)]; kernel_rfl) | (rw [if_neg (by decide +kernel)]; exact ⟨rfl, rfl⟩))
    (fun os started H enc _ => lifted os started H enc)

theorem proved : Rows.RowsLastSaid := over
#print axioms proved
end rowsLast
end Go.Proofs.Ytecpccdmmaigiaa
