/- Proved here: changes can be made in steps or all at once, and repeating them has no effect (statement RowsParts). No condition. -/
import Derived.Test.YtecpccdmmaigiaaRwOf
import Derived.Test.YtecpccdmmaigiaaRwSameK
import Derived.Test.YtecpccdmmaigiaaOpenI
namespace Go.Proofs.Ytecpccdmmaigiaa
set_option linter.unusedVariables false
set_option linter.unusedSimpArgs false
open Go.RowKit
theorem sets_twice {cs : List Rw} (h : Drawn cs) : sets (sets [] cs) cs = sets [] cs := by
  have t1 := Tbl.nil.setsT h
  have t2 := t1.setsT h
  refine look_ext t2.srt t1.srt (fun r hr => (t2.good r hr).2) (fun r hr => (t1.good r hr).2) fun k => ?_
  rw [look_sets t1.srt, look_sets (show srt [] from trivial), lastOf_self]
theorem RIn.first {w : World} {B n c : Nat} {A : Option Addr} {l : List Rw} (h : RIn w B A n c l) {k : Nat} (hk : k ≤ n) : RIn w B A k c (l.take k) := by
  obtain ⟨h1, h2, h3, h4⟩ := h
  refine ⟨by rw [List.length_take]; omega, by omega, h3, ?_, fun hk0 => ?_⟩
  · rw [pcR_len, List.length_take]; omega
  · obtain ⟨b, off, e, hb, hc⟩ := h4.2 (by omega)
    refine ⟨b, off, e, hb, fun j u hu => hc j u ?_⟩
    rw [← pcR_take] at hu
    rw [List.getElem?_take] at hu
    split at hu
    · exact hu
    · cases hu
theorem RIn.rest {w : World} {B n c : Nat} {A : Option Addr} {l : List Rw} (h : RIn w B A n c l) {k : Nat} (hk : k ≤ n) : RIn w B (cutAt A c k 2) (n - k) (c - k) (l.drop k) := by
  have := h.cut (lo := k) (hg := n) hk (Nat.le_refl _)
  rwa [List.take_of_length_le (by have := h.1; omega)] at this
set_option maxHeartbeats 4000000 in
set_option maxRecDepth 100000 in
theorem walkRowsParts (A0 : Option Addr) (n0 c0 : Nat) (x1 : Int) (w : World) (hx0 : IntsAt w w.heap.size A0 n0 c0) (hx1 : -9223372036854775808 ≤ x1 ∧ x1 ≤ 9223372036854775807) :
    Calls Try.prog 9 #[.slice A0 n0 c0, .int .i64 x1] w fun e w' => e = .returned (.bool true) ∧ Below w.heap.size w w' := by
  have H1 := Lib.hid (changes_any A0 n0 c0 w.heap.size 40 w hx0 (Nat.le_refl _) (by decide))
  obtain ⟨i0, hi0, _, hzs, _⟩ := info_parts info_row
  clear hx0
  go_enter Try.func9, Try.ntmps9
  go_wp2_with fail
  refine H1.out.mono ?_
  rintro e w1 ⟨v1, cs, rfl, ho1, hlen, hdr, b1⟩
  obtain ⟨A1, c1, rfl, hin1⟩ := RIn.own ho1
  obtain ⟨N, hN⟩ : ∃ N, cs.length = N := ⟨_, rfl⟩
  rw [hN] at hin1 hlen
  rw [hN]
  have hN40 : N ≤ 40 := by omega
  obtain ⟨K, hK, hKN⟩ : ∃ K : Nat, x1 % ((N : Int) + 1) = (K : Int) ∧ K ≤ N := by
    have h0 := Int.emod_nonneg x1 (show ((N : Int) + 1) ≠ 0 by omega)
    have h1 := Int.emod_lt_of_pos x1 (show (0 : Int) < (N : Int) + 1 by omega)
    exact ⟨(x1 % ((N : Int) + 1)).toNat, by omega, by omega⟩
  have HP := Lib.hid (picked_any x1 ((N : Int) + 1) w1 (by omega) (by omega))
  rw [hK] at HP
  have Hin1 := Lib.hid hin1
  have B1 := Lib.hid b1
  have Hdr := Lib.hid hdr
  have HN := Lib.hid hN
  have hw1 : IntKind.i64.wrap ((N : Int) + 1) = (N : Int) + 1 := IntWalk.i64_in _ (by omega)
  clear ho1 hin1 b1 hdr hlen H1 hK hN
  go_wp2_with fail
  refine HP.out.mono ?_
  rintro e w1' ⟨rfl, rfl⟩
  have H2 := Lib.hid (rowsOf_any A1 N c1 _ cs w1 Hin1.out (Nat.le_refl _) (by omega) Hdr.out)
  clear HP hw1
  go_wp2_with fail
  refine H2.out.mono ?_
  rintro e w2 ⟨v2, rfl, ho2, b2⟩
  obtain ⟨A2, c2, rfl, hin2⟩ := RIn.own ho2
  have T1 := Lib.hid (Tbl.nil.setsT Hdr.out)
  have Hin2 := Lib.hid hin2
  have B2 := Lib.hid b2
  have hc1 := Hin1.out.2.1
  have hcutH := fun W => run_cut_h (P := Try.prog) W 22 40 i0 Try.underlying22 hi0 A1 N c1 .i64 (K : Int) K rfl (by omega)
  have hcutL := fun W => run_cut_l (P := Try.prog) W 22 40 i0 Try.underlying22 hi0 A1 N c1 .i64 (K : Int) K rfl hKN
  rw [hzs] at hcutL
  have H3 := Lib.hid (rowsOf_any A1 K c1 _ (cs.take K) w2 ((Hin1.out.first hKN).below b2) b2.size (by omega) (Hdr.out.take K))
  clear ho2 hin2 b2 H2
  go_wp2_with fail
  refine H3.out.mono ?_
  rintro e w3 ⟨v3, rfl, ho3, b3⟩
  obtain ⟨A3, c3, rfl, hin3⟩ := RIn.own ho3
  have T3 := Lib.hid (Tbl.nil.setsT (Hdr.out.take K))
  have Hin3 := Lib.hid hin3
  have B3 := Lib.hid b3
  have hl3 := T3.out.len
  have hl2 := T1.out.len
  clear ho3 hin3 b3 H3
  obtain ⟨n2, hn2⟩ : ∃ n2, (sets [] cs).length = n2 := ⟨_, rfl⟩
  obtain ⟨n3, hn3⟩ : ∃ n3, (sets [] (cs.take K)).length = n3 := ⟨_, rfl⟩
  have Hn2 := Lib.hid hn2
  have Hn3 := Lib.hid hn3
  rw [hn2] at Hin2 hl2 ⊢
  rw [hn3] at Hin3 hl3 ⊢
  clear hn2 hn3
  go_wp2_with fail
  refine region_S (fun _ => True) [] (by kernel_rfl) ?_
  refine anyS_take 0 (v := .slice A3 n3 c3) rfl (by kernel_rfl) (by kernel_rfl) (by kernel_rfl) (by kernel_rfl) (fun _ _ _ h => h) (.inl ⟨by kernel_rfl, fun w' hS' => by kernel_rfl⟩) trivial ?_
  refine anyS_take 2 (v := .slice A1 N c1) rfl (by kernel_rfl) (by kernel_rfl) (by kernel_rfl) (by kernel_rfl) (fun _ _ _ h => h) (.inl ⟨by kernel_rfl, fun w' hS' => by kernel_rfl⟩) trivial ?_
  refine anyS_take 3 (v := .int .i64 (K : Int)) rfl (by kernel_rfl) (by kernel_rfl) (by kernel_rfl) (by kernel_rfl) (fun _ _ _ h => h) (.inl ⟨by kernel_rfl, fun w' hS' => by kernel_rfl⟩) trivial ?_
  refine anyS_take 4 (v := .slice (cutAt A1 c1 K 2) (N - K) (c1 - K)) rfl (by kernel_rfl) (by kernel_rfl) (by kernel_rfl) (by kernel_rfl) (fun _ _ _ h => h) (.inl ⟨by kernel_rfl, fun w' hS' => by go_simp⟩) trivial ?_
  refine anyS_one 1 rfl (by kernel_rfl) rfl ?_
  intro K1 hK1
  go_simp
  refine (copR_any A3 n3 c3 _ _ w3.drew (Hin3.out.below (below_drewN (Below.refl _ _) 1)) (Nat.le_refl _) (by omega)).mono ?_
  rintro e w4 ⟨v4, rfl, ho4, b4⟩
  obtain ⟨A4, c4, rfl, hin4⟩ := RIn.own ho4
  have Hin4 := Lib.hid hin4
  have B4 := Lib.hid (show Below w3.heap.size w3 w4 from (below_drewN (Below.refl w3.heap.size w3) 1).trans b4)
  refine hK1 _ _ ⟨fun _ => trivial, ?_⟩
  clear ho4 hin4 b4 hK1
  refine anyS_one 5 rfl (by kernel_rfl) rfl ?_
  intro K5 hK5
  go_simp
  have b14 := ((B2.out.trans (B3.out.mono B2.out.size)).trans (B4.out.mono (Nat.le_trans B2.out.size B3.out.size)))
  refine (copR_any _ _ _ _ _ w4 ((Hin1.out.rest hKN).below b14) b14.size (by omega)).mono ?_
  rintro e w5 ⟨v5, rfl, ho5, b5⟩
  obtain ⟨A5, c5, rfl, hin5⟩ := RIn.own ho5
  have hdl : (cs.drop K).length = N - K := by rw [List.length_drop, HN.out]
  have T6 := Lib.hid (T3.out.setNT (Hdr.out.drop K) (by omega))
  have H6 := Lib.hid (set_any A4 A5 n3 c4 (N - K) c5 w4.heap.size w5.heap.size _ _ w5 (Hin4.out.below b5) b5.size T3.out.short (by omega) hin5 (Nat.le_refl _) (drawn_short (Hdr.out.drop K)) (by omega))
  rw [T6.out] at H6
  have B5 := Lib.hid b5
  refine hK5 _ _ ⟨fun _ => trivial, ?_⟩
  clear ho5 hin5 b5 hK5 b14 hdl
  refine anyS_one 6 rfl (by kernel_rfl) rfl ?_
  intro K6 hK6
  go_simp
  refine H6.out.mono ?_
  rintro e w6 ⟨v6, rfl, ho6, b6⟩
  have hse : sets (sets [] (cs.take K)) (cs.drop K) = sets [] cs := by rw [← sets_app, List.take_append_drop]
  replace ho6 : w6.ownsRow w5.heap.size 40 2 v6 (sets (sets [] (cs.take K)) (cs.drop K)).length (pcR (sets (sets [] (cs.take K)) (cs.drop K))) := ho6
  rw [hse, Hn2.out] at ho6
  obtain ⟨A6, c6, rfl, hin6⟩ := RIn.own ho6
  have Hin6 := Lib.hid hin6
  have B6 := Lib.hid b6
  refine hK6 _ _ ⟨fun _ => trivial, ?_⟩
  clear ho6 hin6 b6 hK6 H6 hse
  refine anyS_take 7 (v := .tuple #[.slice A6 n2 c6, .int .i64 0]) rfl (by kernel_rfl) (by kernel_rfl) (by kernel_rfl) (by kernel_rfl) (fun _ _ _ h => h) (.inl ⟨by kernel_rfl, fun w' hS' => by first | kernel_rfl | go_simp⟩) trivial ?_
  refine anyS_take 8 (v := .slice A6 n2 c6) rfl (by kernel_rfl) (by kernel_rfl) (by kernel_rfl) (by kernel_rfl) (fun _ _ _ h => h) (.inl ⟨by kernel_rfl, fun w' hS' => by first | kernel_rfl | go_simp⟩) trivial ?_
  refine anyS_take 9 (v := .int .i64 0) rfl (by kernel_rfl) (by kernel_rfl) (by kernel_rfl) (by kernel_rfl) (fun _ _ _ h => h) (.inl ⟨by kernel_rfl, fun w' hS' => by first | kernel_rfl | go_simp⟩) trivial ?_
  refine anyS_take 10 (v := .slice A6 n2 c6) rfl (by kernel_rfl) (by kernel_rfl) (by kernel_rfl) (by kernel_rfl) (fun _ _ _ h => h) (.inl ⟨by kernel_rfl, fun w' hS' => by first | kernel_rfl | go_simp⟩) trivial ?_
  refine anyS_take 11 (v := .int .i64 0) rfl (by kernel_rfl) (by kernel_rfl) (by kernel_rfl) (by kernel_rfl) (fun _ _ _ h => h) (.inl ⟨by kernel_rfl, fun w' hS' => by first | kernel_rfl | go_simp⟩) trivial ?_
  refine anyS_done (by kernel_rfl) ?_
  have L4 := Lib.hid (B3.out.trans (B4.out.mono B3.out.size))
  have L5 := Lib.hid (L4.out.trans (B5.out.mono L4.out.size))
  have L6 := Lib.hid (L5.out.trans (B6.out.mono L5.out.size))
  have L16 := Lib.hid (B2.out.trans (L6.out.mono B2.out.size))
  have H7 := Lib.hid (copR_any A2 n2 c2 _ _ w6 (Hin2.out.below L6.out) L6.out.size (by omega))
  go_wp2_with fail
  refine H7.out.mono ?_
  rintro e w7 ⟨v7, rfl, ho7, b7⟩
  obtain ⟨A7, c7, rfl, hin7⟩ := RIn.own ho7
  have Hin7 := Lib.hid hin7
  have B7 := Lib.hid b7
  have L17 := Lib.hid (L16.out.trans (b7.mono L16.out.size))
  have H8 := Lib.hid (copR_any A1 N c1 _ _ w7 (Hin1.out.below L17.out) L17.out.size (by omega))
  clear ho7 hin7 b7 H7
  go_wp2_with fail
  refine H8.out.mono ?_
  rintro e w8 ⟨v8, rfl, ho8, b8⟩
  obtain ⟨A8, c8, rfl, hin8⟩ := RIn.own ho8
  have T9 := Lib.hid (T1.out.setNT Hdr.out (by have := HN.out; omega))
  have H9 := Lib.hid (set_any A7 A8 n2 c7 N c8 w7.heap.size w8.heap.size _ _ w8 (Hin7.out.below b8) b8.size T1.out.short (by omega) hin8 (Nat.le_refl _) (drawn_short Hdr.out) (by omega))
  rw [T9.out, sets_twice Hdr.out] at H9
  have B8 := Lib.hid b8
  clear ho8 hin8 b8 H8
  go_wp2_with fail
  refine H9.out.mono ?_
  rintro e w9 ⟨v9, rfl, ho9, b9⟩
  replace ho9 : w9.ownsRow w8.heap.size 40 2 v9 (sets [] cs).length (pcR (sets [] cs)) := ho9
  rw [Hn2.out] at ho9
  obtain ⟨A9, c9, rfl, hin9⟩ := RIn.own ho9
  have L69 := Lib.hid (B7.out.trans ((B8.out.trans (b9.mono B8.out.size)).mono B7.out.size))
  have L29 := Lib.hid (L6.out.trans (L69.out.mono L6.out.size))
  have HX := Lib.hid (B1.out.trans ((B2.out.trans (L29.out.mono B2.out.size)).mono B1.out.size))
  have HS1 := Lib.hid (sameRowsK_any A2 A6 n2 c2 c6 _ _ _ w9 (Hin2.out.below L29.out) (Hin6.out.below L69.out) (by omega))
  have HS2 := Lib.hid (show ∀ q, _ from fun q => sameRowsK_any A2 A9 n2 c2 c9 _ _ _ (w9.drewN q) ((Hin2.out.below L29.out).below (below_drewN (Below.refl _ _) q)) (hin9.below (below_drewN (Below.refl _ _) q)) (by omega))
  clear ho9 b9 hin9 H9
  go_wp2_with fail
  refine HS1.out.mono ?_
  rintro e w10 ⟨rfl, q, rfl⟩
  go_wp2_with fail
  refine (HS2.out q).mono ?_
  rintro e w11 ⟨rfl, q2, rfl⟩
  go_wp2_with fail
  go_ret
  exact ⟨rfl, below_drewN HX.out _⟩
namespace rowsParts
open Go.ChangeShapes Go.WideShapes Go.ChangeAt Go.RowKit
theorem own : ownKnob Try.prog.godebug = none := by kernel_rfl
theorem laidOut : laidOutB Try.prog = true := by kernel_rfl
set_option linter.unusedVariables false
set_option maxRecDepth 100000 in
theorem lifted (os : Os) (started : os.Started) (H : Type) (enc : TypeId × Value → H) :
    ReturnsInHanded {} Try.checked os 9 .any (Rows.rowsPartsSpec.pre6 enc Try.prog Try.f9 Rows.rowsPartsRow.domain false) (Rows.rowsPartsSpec.post enc Try.prog Try.f9 false true false false) := by
  refine returnsInHanded_of_change (C := Try.checked) own started (by kernel_rfl) Try.func9
    (ChangeSpec.witness6 (enc := enc) (C := Try.checked) false ⟨#[], #[.slice none 0 0, .int .i64 0], []⟩ 8 (by kernel_rfl) (by kernel_rfl) (by kernel_rfl) (by kernel_rfl)) ?_
  intro W base args ds gs before hval0 hW hcnd _
  have hval : ∀ (j : Nat) t v, Try.f9.params[j]? = some t → args[j]? = some v → Value.okWide Try.prog W .any base t v := hval0
  have hW' := hW
  obtain ⟨p, q, hA0, hV, rfl, hfz, hnd⟩ := hW
  have hA : DataW.TrodAll enc Try.prog W 0 (fun _ => true) true Try.f9.params.toList args.toList ds p := hA0
  rw [Try.params9] at hA hval
  obtain ⟨v0, vs0, d0, ds0, p0, q0, hargs, rfl, rfl, h0, rr0⟩ := trodAll_cons hA
  obtain ⟨v1, vs1, d1, ds1, p1, q1, rfl, rfl, rfl, h1, rr1⟩ := trodAll_cons rr0
  obtain ⟨rfl, rfl, rfl⟩ := trodAll_nil rr1
  obtain rfl : args = #[v0, v1] := by cases args; simp_all
  obtain ⟨rfl, rfl⟩ := trodVars_none hV
  have k0 := h0
  have lt0 : ∀ x ∈ p0, x.block < W.heap.size := by obtain ⟨m, hm⟩ := k0; exact DataW.trod_lt m _ _ _ hm
  obtain ⟨A0, n0, c0, rfl, hx0⟩ := open_intsl Try.underlying35 Try.underlying3 (by kernel_rfl) (hval 0 35 v0 rfl rfl) h0
  have k1 := h1
  have lt1 : ∀ x ∈ p1, x.block < W.heap.size := by obtain ⟨m, hm⟩ := k1; exact DataW.trod_lt m _ _ _ hm
  obtain ⟨x1, rfl, hx1⟩ := open_i64 Try.underlying3 (hval 1 3 v1 rfl rfl) h1
  clear hA0 hval0
  refine (walkRowsParts A0 n0 c0 x1 W hx0 hx1).mono fun e W' ⟨he, bel⟩ => ?_
  subst he
  exact ⟨_, rfl, _, _, _, [], _, [], hW', trodAll_mk1 (shut_bool Try.underlying4 _), (trodAll_cons_mk (Below.trod laidOut (by kernel_rfl) (of_decide_eq_true (by kernel_rfl)) k0 bel lt0) (trodAll_cons_mk (Below.trod laidOut (by kernel_rfl) (of_decide_eq_true (by kernel_rfl)) k1 bel lt1) trodAll_mk0)), rfl, bel.frame _, fun h => by cases h⟩

theorem over : Rows.rowsPartsRow.holds Try.pinned (OpenSpec.ofChange Rows.rowsPartsSpec) :=
  OpenClaim.holds_of_wide 9 Try.f9 rfl rfl rfl rfl rfl rfl rfl ⟨rfl, rfl, rfl, rfl, rfl⟩ rfl rfl rfl rfl rfl (by kernel_rfl) Try.func9 (by kernel_rfl)
    (of_decide_eq_true (by kernel_rfl)) (by unfold Func.isWrapper; first | (rw [if_pos (by decide +kernel)]; kernel_rfl) | (rw [if_neg (by decide +kernel)]; exact ⟨rfl, rfl⟩))
    (fun os started H enc _ => lifted os started H enc)

theorem proved : Rows.RowsPartsSaid := over
#print axioms proved
end rowsParts
end Go.Proofs.Ytecpccdmmaigiaa
