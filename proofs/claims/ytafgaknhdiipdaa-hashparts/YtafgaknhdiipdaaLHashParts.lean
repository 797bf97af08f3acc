/- Proved here: for every int and all slices of bytes (up to 200 bytes of each), the hash of two texts one behind the other is the hash of the second, begun with the hash of the first, and lies below Order (statement HashParts). No condition. -/
import Derived.Test.YtafgaknhdiipdaaSgL
import Derived.Test.YtafgaknhdiipdaaOpen
namespace Go.Proofs.Ytafgaknhdiipdaa
set_option linter.unusedVariables false
set_option linter.unusedSimpArgs false
open Go.RowKit
set_option maxRecDepth 100000 in
set_option maxHeartbeats 2000000 in
theorem walkHashParts (x0 : Int) (A1 : Option Addr) (n1 c1 : Nat) (l1 : List UInt8) (A2 : Option Addr) (n2 c2 : Nat) (l2 : List UInt8) (w : World) (hx0 : -9223372036854775808 ≤ x0 ∧ x0 ≤ 9223372036854775807) (hx1 : BytesIn w A1 n1 c1 l1) (hx2 : BytesIn w A2 n2 c2 l2) :
    Calls Try.prog 12 #[.int .i64 x0, .slice A1 n1 c1, .slice A2 n2 c2] w fun e w' => e = .returned (.bool true) ∧ Below w.heap.size w w' := by
  obtain ⟨hr1, hn1, _, hA1⟩ := hx1
  obtain ⟨hr2, hn2, _, hA2⟩ := hx2
  clear hx0
  obtain ⟨i0, hi0, hz0, hz1, hz2⟩ := info_u8'
  have p0 := Int.emod_nonneg x0 (show (7823 : Int) ≠ 0 by decide)
  have p1 := Int.emod_lt_of_pos x0 (show (0 : Int) < 7823 by decide)
  obtain ⟨n, hn⟩ : ∃ n : Nat, x0 % 7823 = n := ⟨(x0 % 7823).toNat, by omega⟩
  have hnl : n < 7823 := by omega
  have Hn := Lib.hid hn
  clear hn p0 p1
  have hlx : (l1.take 200).length ≤ 200 := by rw [List.length_take]; omega
  have hly : (l2.take 200).length ≤ 200 := by rw [List.length_take]; omega
  have HC1 := Lib.hid (fun W h => cut_any A1 n1 c1 l1 W h hn1 hA1)
  have HC2 := Lib.hid (fun W h => cut_any A2 n2 c2 l2 W h hn2 hA2)
  generalize l1.take 200 = x at *
  generalize l2.take 200 = y at *
  have hh := hsh_lt n x
  have hH1 := hashR_nat (l := x) (n := x.length) hnl (by omega)
  have hH2 := hashR_nat (l := y) (n := y.length) (r := hsh n x) (by omega) (by omega)
  have hH3 := hashR_nat (l := x ++ y) (n := x.length + y.length) hnl (by omega)
  rw [hsh_app] at hH3
  generalize hsh n x = h at *
  generalize hsh h y = i at *
  have hH4 : hashR 0 1 [0] = (1, 0) := by unfold hashR; rw [if_pos (by decide), if_neg (by decide)]; rfl
  have HH1 := Lib.hid hH1
  have HH2 := Lib.hid hH2
  have HH3 := Lib.hid hH3
  have HH4 := Lib.hid hH4
  have Hr1 := Lib.hid hr1
  have Hr2 := Lib.hid hr2
  clear hH1 hH2 hH3 hH4 hr1 hr2 hn1 hn2 hA1 hA2
  go_enter Try.func12, Try.ntmps12
  go_wp2_with fail
  refine (picked_any x0 7823 _ (by decide) (by decide)).mono ?_
  rintro e w1 ⟨rfl, rfl⟩
  rw [Hn.out]
  go_wp2_with fail
  refine (HC1.out _ Hr1.out).mono ?_
  rintro e w1 ⟨_, rfl, B1, d1, rfl, hh1, hc1, ha1, _, hb1⟩
  have Hb1 := Lib.hid hb1
  have Hx1 := Lib.hid hh1
  have HX := Lib.hid (cut_again B1 d1 x hlx hc1 ha1)
  clear hh1 hb1 hc1 ha1
  go_wp2_with fail
  refine (HC2.out _ ((Hr2.out.below Hb1.out).wider Hb1.out.size)).mono ?_
  rintro e w2 ⟨_, rfl, B2, d2, rfl, hh2, hc2, ha2, _, hb2⟩
  have Hb2 := Lib.hid (Hb1.out.trans (hb2.mono Hb1.out.size))
  have Hx2 := Lib.hid ((Hx1.out.below hb2).wider hb2.size)
  have Hy2 := Lib.hid hh2
  have HY := Lib.hid (cut_again B2 d2 y hly hc2 ha2)
  have Ha2 := Lib.hid ha2
  clear hh2 hb2 hc2 ha2 Hb1 Hx1
  go_wp2_with fail
  refine (HX.out _ Hx2.out).mono ?_
  rintro e w3 ⟨_, rfl, B3, d3, rfl, hh3, _, _, _, hb3⟩
  have Hb3 := Lib.hid (Hb2.out.trans (hb3.mono Hb2.out.size))
  have Hx3 := Lib.hid ((Hx2.out.below hb3).wider hb3.size)
  have Hy3 := Lib.hid ((Hy2.out.below hb3).wider hb3.size)
  have Hh3 := Lib.hid hh3
  clear hh3 hb3 Hb2 Hx2 Hy2
  go_wp2_with fail
  refine (hashP_any n B3 x.length d3 x _ Hh3.out).mono ?_
  rintro e w4 ⟨rfl, q3, hw4⟩
  rw [HH1.out]
  simp only [intsV]
  have Hb4 := Lib.hid (show Below w.heap.size w w4 by rw [hw4]; exact below_drewN Hb3.out q3)
  have Hx4 := Lib.hid (show Holds w4 w4.heap.size 1 B1 x.length (x.map bv) by rw [hw4]; exact Hx3.out)
  have Hy4 := Lib.hid (show Holds w4 w4.heap.size 1 B2 y.length (y.map bv) by rw [hw4]; exact Hy3.out)
  clear hw4 Hb3 Hx3 Hy3 Hh3
  go_wp2_with fail
  refine (HY.out _ Hy4.out).mono ?_
  rintro e w5 ⟨_, rfl, B5, d5, rfl, hh5, _, _, _, hb5⟩
  have Hb5 := Lib.hid (Hb4.out.trans (hb5.mono Hb4.out.size))
  have Hx5 := Lib.hid ((Hx4.out.below hb5).wider hb5.size)
  have Hy5 := Lib.hid ((Hy4.out.below hb5).wider hb5.size)
  have Hh5 := Lib.hid hh5
  clear hh5 hb5 Hb4 Hx4 Hy4
  go_wp2_with fail
  refine (hashP_any h B5 y.length d5 y _ Hh5.out).mono ?_
  rintro e w6 ⟨rfl, q5, hw6⟩
  rw [HH2.out]
  simp only [intsV]
  have Hb6 := Lib.hid (show Below w.heap.size w w6 by rw [hw6]; exact below_drewN Hb5.out q5)
  have Hx6 := Lib.hid (show Holds w6 w6.heap.size 1 B1 x.length (x.map bv) by rw [hw6]; exact Hx5.out)
  have Hy6 := Lib.hid (show Holds w6 w6.heap.size 1 B2 y.length (y.map bv) by rw [hw6]; exact Hy5.out)
  clear hw6 Hb5 Hx5 Hy5 Hh5
  go_wp2_with fail
  refine (HX.out _ Hx6.out).mono ?_
  rintro e w7 ⟨_, rfl, B7, d7, rfl, _, _, _, hown7, hb7⟩
  have Hb7 := Lib.hid (Hb6.out.trans (hb7.mono Hb6.out.size))
  have Hy7 := Lib.hid ((Hy6.out.below hb7).wider hb7.size)
  have Ho7 := Lib.hid hown7
  have hb7z := hb7.size
  clear hown7 hb7 Hx6 Hy6
  go_wp2_with (at_builtin
               refine wpList_append_all w7 rfl _ _ _ rfl w6.heap.size 5 i0 _ 1 1 Try.underlying26 hi0 hz0 hz1 hz2 rfl (by decide) (.slice B7 x.length d7) x.length (x.map bv) (by rfl) Ho7.out w7.heap.size B2 y.length d2 (y.map bv) (by rfl) Ha2.out Hy7.out (bv_one y) (by omega) (by decide) hb7z ?_
               intro v8 w8 hown8 hg8 _
               obtain ⟨B8, d8, rfl, hB8⟩ := own_form hown8)
  have Hb8 := Lib.hid (show Below w.heap.size w w8 from Hb7.out.grown hg8 Hb7.out.size (fun k hk => Nat.le_trans Hb6.out.size (Ho7.out.lt k hk).1))
  have hh8 : Holds w8 w8.heap.size 1 B8 (x.length + y.length) ((x ++ y).map bv) := by have := Holds.own hown8; simpa using this
  refine (hashP_any n B8 (x.length + y.length) d8 (x ++ y) _ hh8).mono ?_
  rintro e w9 ⟨rfl, q9, hw9⟩
  rw [HH3.out]
  simp only [intsV]
  have Hb9 := Lib.hid (show Below w.heap.size w w9 by rw [hw9]; exact below_drewN Hb8.out q9)
  clear hw9 Hb8 hh8 hown8 hg8 hB8
  have hz : Holds (w9.alloc (.cells #[.int .u8 0] 5)) (w9.alloc (.cells #[.int .u8 0] 5)).heap.size 1 (some ⟨w9.heap.size, 0, none⟩) 1 ([(0 : UInt8)].map bv) := by
    refine ⟨rfl, fun _ => ⟨w9.heap.size, 0, rfl, by simp, fun j u hu => ?_⟩⟩
    match j, hu with
    | 0, hu => simp at hu; subst hu; simp [World.cell?_alloc_new, bv]
  have Hz := Lib.hid hz
  have Hb10 := Lib.hid (Hb9.out.alloc Hb9.out.size (.cells #[.int .u8 0] 5))
  clear hz
  go_wp2_with fail
  refine (hashP_any 0 (some ⟨w9.heap.size, 0, none⟩) 1 1 [0] _ Hz.out).mono ?_
  rintro e w10 ⟨rfl, q10, rfl⟩
  rw [HH4.out]
  simp only [intsV]
  go_wp2_with fail
  go_ret
  exact ⟨by first | rfl | (simp; done) | (simp; omega), below_drewN Hb10.out q10⟩
namespace hashParts
open Go.ChangeShapes Go.WideShapes Go.ChangeAt Go.RowKit
theorem own : ownKnob Try.prog.godebug = none := by kernel_rfl
theorem laidOut : laidOutB Try.prog = true := by kernel_rfl
set_option linter.unusedVariables false
set_option maxRecDepth 100000 in
theorem lifted (os : Os) (started : os.Started) (H : Type) (enc : TypeId × Value → H) :
    ReturnsInHanded {} Try.checked os 12 .any (Rows.hashPartsSpec.pre6 enc Try.prog Try.f12 Rows.hashPartsRow.domain false) (Rows.hashPartsSpec.post enc Try.prog Try.f12 false true false false) := by
  refine returnsInHanded_of_change (C := Try.checked) own started (by kernel_rfl) Try.func12
    (ChangeSpec.witness6 (enc := enc) (C := Try.checked) false ⟨#[], #[.int .i64 0, .slice none 0 0, .slice none 0 0], []⟩ 8 (by kernel_rfl) (by kernel_rfl) (by kernel_rfl) (by kernel_rfl)) ?_
  intro W base args ds gs before hval0 hW hcnd _
  have hval : ∀ (j : Nat) t v, Try.f12.params[j]? = some t → args[j]? = some v → Value.okWide Try.prog W .any base t v := hval0
  have hW' := hW
  obtain ⟨p, q, hA0, hV, rfl, hfz, hnd⟩ := hW
  have hA : DataW.TrodAll enc Try.prog W 0 (fun _ => true) true Try.f12.params.toList args.toList ds p := hA0
  rw [Try.params12] at hA hval
  obtain ⟨v0, vs0, d0, ds0, p0, q0, hargs, rfl, rfl, h0, rr0⟩ := trodAll_cons hA
  obtain ⟨v1, vs1, d1, ds1, p1, q1, rfl, rfl, rfl, h1, rr1⟩ := trodAll_cons rr0
  obtain ⟨v2, vs2, d2, ds2, p2, q2, rfl, rfl, rfl, h2, rr2⟩ := trodAll_cons rr1
  obtain ⟨rfl, rfl, rfl⟩ := trodAll_nil rr2
  obtain rfl : args = #[v0, v1, v2] := by cases args; simp_all
  obtain ⟨rfl, rfl⟩ := trodVars_none hV
  have k0 := h0
  have lt0 : ∀ x ∈ p0, x.block < W.heap.size := by obtain ⟨m, hm⟩ := k0; exact DataW.trod_lt m _ _ _ hm
  obtain ⟨x0, rfl, hx0⟩ := open_i64 Try.underlying3 (hval 0 3 v0 rfl rfl) h0
  have k1 := h1
  have lt1 : ∀ x ∈ p1, x.block < W.heap.size := by obtain ⟨m, hm⟩ := k1; exact DataW.trod_lt m _ _ _ hm
  obtain ⟨A1, n1, c1, l1, rfl, hx1⟩ := open_bytes Try.underlying26 Try.underlying5 (by kernel_rfl) (hval 1 26 v1 rfl rfl) h1
  have k2 := h2
  have lt2 : ∀ x ∈ p2, x.block < W.heap.size := by obtain ⟨m, hm⟩ := k2; exact DataW.trod_lt m _ _ _ hm
  obtain ⟨A2, n2, c2, l2, rfl, hx2⟩ := open_bytes Try.underlying26 Try.underlying5 (by kernel_rfl) (hval 2 26 v2 rfl rfl) h2
  clear hA0 hval0
  refine (walkHashParts x0 A1 n1 c1 l1 A2 n2 c2 l2 W hx0 hx1 hx2).mono fun e W' ⟨he, bel⟩ => ?_
  subst he
  exact ⟨_, rfl, _, _, _, [], _, [], hW', trodAll_mk1 (shut_bool Try.underlying4 _), (trodAll_cons_mk (Below.trod laidOut (by kernel_rfl) (of_decide_eq_true (by kernel_rfl)) k0 bel lt0) (trodAll_cons_mk (Below.trod laidOut (by kernel_rfl) (of_decide_eq_true (by kernel_rfl)) k1 bel lt1) (trodAll_cons_mk (Below.trod laidOut (by kernel_rfl) (of_decide_eq_true (by kernel_rfl)) k2 bel lt2) trodAll_mk0))), rfl, bel.frame _, fun h => by cases h⟩

theorem over : Rows.hashPartsRow.holds Try.pinned (OpenSpec.ofChange Rows.hashPartsSpec) :=
  OpenClaim.holds_of_wide 12 Try.f12 rfl rfl rfl rfl rfl rfl rfl ⟨rfl, rfl, rfl, rfl, rfl⟩ rfl rfl rfl rfl rfl (by kernel_rfl) Try.func12 (by kernel_rfl)
    (of_decide_eq_true (by kernel_rfl)) (by unfold Func.isWrapper; first | (rw [if_pos (by decide +kernel)]; kernel_rfl) | (rw [if_neg (by decide +kernel)]; exact ⟨rfl, rfl⟩))
    (fun os started H enc _ => lifted os started H enc)

theorem proved : Rows.HashPartsSaid := over
#print axioms proved
end hashParts
end Go.Proofs.Ytafgaknhdiipdaa
