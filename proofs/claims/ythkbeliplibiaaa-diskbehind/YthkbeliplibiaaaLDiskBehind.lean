/- Proved here: for every list of raw numbers and every slice of bytes (up to 200 bytes of it), what is written stands behind all that the disk had (statement DiskBehind). No condition. -/
import Derived.Test.YthkbeliplibiaaaDkFar
import Derived.Test.YthkbeliplibiaaaUng
import Derived.Test.YthkbeliplibiaaaRows
import Derived.ChangeSame
namespace Go.Proofs.Ythkbeliplibiaaa
set_option linter.unusedVariables false
set_option linter.unusedSimpArgs false
open Go.RowKit
/-- cutBytes: a copy of the first 200 bytes. -/
def DkCut (w w' : World) (x : List UInt8) (v : Value) : Prop :=
  ∃ A c, v = .slice A x.length c ∧ x.length ≤ c ∧ (A = none → c = 0) ∧ w'.ownsRow w.heap.size 5 1 (.slice A x.length c) x.length (x.map bv) ∧ Below w.heap.size w w'
set_option maxHeartbeats 1000000 in
theorem dk_cut_any (A : Option Addr) (n c B : Nat) (l : List UInt8) (w : World) (hh : Holds w B 1 A n (l.map bv)) (hnc : n ≤ c) (hA : A = none → c = 0) :
    Calls Try.prog 18 #[.slice A n c] w fun e w' => ∃ v, e = .returned v ∧ DkCut w w' (l.take 200) v := by
  obtain ⟨i0, hi0, hz0, hz1, hz2⟩ := info_parts info_u8
  obtain ⟨m, hm'⟩ : ∃ m : Nat, m = min n 200 := ⟨_, rfl⟩
  have hmin : (if (200 : Int) < (n : Int) then (200 : Int) else (n : Int)) = (m : Int) := by split <;> omega
  have hle : m ≤ 200 := by omega
  have hln : m ≤ n := by omega
  have hx := hh.first hln
  have hL := hh.len
  have ht : l.take m = l.take 200 := by rw [hm', ← hL, ← List.take_take]; exact List.take_of_length_le (by rw [List.length_take]; omega)
  have hxl : (l.take m).length = m := by rw [List.length_take]; omega
  rw [ht] at hx hxl
  generalize l.take 200 = x at *
  have Hxl := Lib.hid hxl
  clear hxl hL hh ht hm'
  have hs0 := fun W => run_cut_h (P := Try.prog) W 24 5 i0 Try.underlying24 hi0 A n c .i64 (m : Int) m rfl (by omega)
  go_enter Try.func18, Try.ntmps18
  go_wp2_with (at_builtin; refine wpList_append_nil w rfl _ _ rfl 5 i0 _ 1 1 Try.underlying24 hi0 hz0 hz1 hz2 rfl (by decide) B A m c (x.map bv) hx (by rfl) hA (bv_one x) (by omega) (by decide) ?_; intro B0 d0 w1 hown1 hh1 hB0 hb1)
  go_ret
  have hlen := Hxl.out
  subst hlen
  refine ⟨_, rfl, B0, d0, rfl, ?_, hB0, hown1, hb1⟩
  rcases hown1.2 with ⟨hv, hn⟩ | ⟨g, cap, cur, hv, _, _, hnc, _⟩
  · omega
  · injection hv with _ _ hc; omega
theorem dk_write (ms : List Mv) (x : List UInt8) (h : ¬ 1200 < (plays0 ms).2.1.length + x.length) : (plays0 (ms ++ [Mv.mk 1 x 0])).2 = ((plays0 ms).2.1 ++ x, (plays0 ms).2.2) := by
  rw [plays0_snoc, mv_write rfl h]
set_option maxRecDepth 100000 in
set_option maxHeartbeats 2000000 in
theorem walkDiskBehind (A0 : Option Addr) (n0 c0 : Nat) (A1 : Option Addr) (n1 c1 : Nat) (l1 : List UInt8) (w : World) (hx0 : IntsAt w w.heap.size A0 n0 c0) (hx1 : BytesIn w A1 n1 c1 l1) :
    Calls Try.prog 7 #[.slice A0 n0 c0, .slice A1 n1 c1] w fun e w' => e = .returned (.bool true) ∧ Below w.heap.size w w' := by
  have H0 := Lib.hid (moves_any A0 n0 c0 w.heap.size 50 w hx0 (Nat.le_refl _) (by decide))
  obtain ⟨hh, hnc, _, hA⟩ := hx1
  have Hh := Lib.hid hh
  clear hx0 hh
  obtain ⟨i0, hi0, hz0, hz1, hz2⟩ := info_parts info_u8
  go_enter Try.func7, Try.ntmps7
  go_wp2_with fail
  refine H0.out.mono ?_
  rintro e w1 ⟨ms, Am, cm, rfl, hml, hd8, hown, hbe1⟩
  obtain ⟨hin1, _⟩ := hown.far.inn
  have Hin1 := Lib.hid hin1
  have Hbe1 := Lib.hid hbe1
  have hs1 := hbe1.size
  have hcl : (plays0 ms).2.1.length ≤ 400 := by have := plays0_content_len ms 8 hd8; omega
  have HC1 := Lib.hid (dk_cut_any A1 n1 c1 w.heap.size l1 w1 (Hh.out.below hbe1) hnc hA)
  clear hown hin1 hbe1 H0 hd8 Hh hA
  go_wp2_with fail
  refine HC1.out.mono ?_
  rintro e w2 ⟨v2, rfl, A2, c2, rfl, hxc2, hAc2, ho2, hbe2⟩
  have hxl : (l1.take 200).length ≤ 200 := by rw [List.length_take]; omega
  have hxt : (l1.take 200).take 200 = l1.take 200 := List.take_of_length_le hxl
  generalize l1.take 200 = x at *
  have Hbe2 := Lib.hid hbe2
  have hs2 := hbe2.size
  have Ho2 := Lib.hid ho2
  have Hin2 := Lib.hid (Hin1.out.below hbe2)
  have Hxt := Lib.hid hxt
  clear ho2 hbe2 HC1 Hin1 hxt
  have H2 := Lib.hid (moved_any Am ms.length cm _ ms w2 Hin2.out hs2 (by omega))
  go_wp2_with fail
  refine H2.out.mono ?_
  rintro e w3 ⟨Aa, ca, rfl, hoa, hbe3⟩
  have Hoa := Lib.hid hoa
  have Hbe3 := Lib.hid hbe3
  have hs3 := hbe3.size
  have Hin3 := Lib.hid (Hin2.out.below (hbe3.mono hs2))
  have Ho3 := Lib.hid (own_belowS Ho2.out hbe3)
  clear hoa hbe3 H2 Hin2 Ho2
  have Hpl := Lib.hid (dk_write ms x (by omega))
  generalize (plays0 ms).2.1 = C at *
  obtain ⟨L, hL⟩ : ∃ L, C.length = L := ⟨_, rfl⟩
  rw [hL] at Hoa hcl ⊢
  have HL := Lib.hid hL
  clear hL
  have hl2 : ms.length ≤ 1048576 := by omega
  have hl3 : ms.length + 1 ≤ 1048576 := by omega
  go_wp2_with (at_builtin; refine wpList_farCopy (by rfl) _ (by rfl) _ Am ms.length cm ms Hin3.out (by rfl) (Nat.le_trans hs2 hs3) hl2 ?_; clear Hin3; intro A4 c4 w4 hf4 hbe4; have Hf4 := Lib.hid hf4; have Hbe4 := Lib.hid hbe4; have hs4 := hbe4.size; have Ho4 := Lib.hid (own_belowS Ho3.out hbe4); clear hf4 hbe4)
  have HC4 := Lib.hid (dk_cut_any A2 x.length c2 _ x w4 (Holds.own Ho4.out) hxc2 hAc2)
  refine HC4.out.mono ?_
  rintro e w5 ⟨v5, rfl, A5, c5, rfl, hxc5, hAc5, ho5, hbe5⟩
  rw [Hxt.out] at hxc5 ho5 ⊢
  have Hf5 := Lib.hid (Hf4.out.belowS hbe5)
  have hs5 := hbe5.size
  have Hm5 := Lib.hid (show MIn w5 (fun b => b < w5.heap.size ∧ some b ≠ (Value.slice A4 ms.length c4).ownBlock) (Mv.mk 1 x 0) [.int .i64 1, .slice A5 x.length c5, .int .i64 0] from
    ⟨A5, c5, rfl, by show x.length ≤ 1048576; omega, hxc5, hAc5, by constructor <;> simp, by constructor <;> simp, (HoldsS.own ho5).mono fun b hb => ⟨hb.2, fun e => by
      obtain ⟨xs, h1, _⟩ := Hf4.out
      have := (World.ownsRow.lt h1 b e.symm).2
      have := hb.1
      omega⟩⟩)
  have Hb35 := Lib.hid (Hbe4.out.trans (hbe5.mono hs4))
  have hs35 : w3.heap.size ≤ w5.heap.size := Nat.le_trans hs4 hs5
  clear ho5 hbe5 HC4 Hf4 Ho4 Hbe4
  go_wp2_with (at_builtin; refine wpList_farPut (by rfl) _ _ (by rfl) w3.heap.size _ ms (Mv.mk 1 x 0) _ (by rfl) Hf5.out Hm5.out _ (by rfl) _ (by rfl) (by rfl) hl3 hs35 ?_; clear Hf5 Hm5; intro v6 w6 hf6 hbe6 hblk6)
  obtain ⟨A6, c6, rfl⟩ := hf6.form
  have hin6 := hf6.inn.1
  have hl6 : (ms ++ [Mv.mk 1 x 0]).length ≤ 100 := by simp; omega
  have hb36 : Below w3.heap.size w3 w6 := Hb35.out.trans hbe6
  have Ho6 := Lib.hid (own_belowS Ho3.out hb36)
  have Hoa6 := Lib.hid (own_belowS Hoa.out hb36)
  have hs36 := hb36.size
  have Hw6 := Lib.hid (Hbe1.out.trans ((Hbe2.out.mono hs1).trans ((Hbe3.out.mono (Nat.le_trans hs1 hs2)).trans (hb36.mono (Nat.le_trans hs1 (Nat.le_trans hs2 hs3))))))
  have H6 := Lib.hid (moved_any A6 _ c6 _ _ w6 hin6 (Nat.le_refl _) hl6)
  clear hf6 hbe6 hblk6 hin6 hb36 Hb35 Ho3 Hoa Hbe1 Hbe2 Hbe3
  refine H6.out.mono ?_
  rintro e w7 ⟨Ad, cd, rfl, hod, hbe7⟩
  rw [Hpl.out] at hod ⊢
  have hdl : (C ++ x).length = L + x.length := by rw [List.length_append, HL.out]
  simp only [hdl] at hod ⊢
  have ho7 := own_belowS Ho6.out hbe7
  have hoa7 := own_belowS Hoa6.out hbe7
  have Hod := Lib.hid hod
  have Hha := Lib.hid (Holds.own hoa7)
  have Hhx := Lib.hid (Holds.own ho7)
  have Hw7 := Lib.hid (Hw6.out.trans (hbe7.mono Hw6.out.size))
  have hsw7 := Hw7.out.size
  obtain ⟨Aq, cq, he, hAa⟩ := own_form hoa7
  injection he with e1 _ e3
  subst e1 e3
  have hAa' : Aa = none → ca = 0 := fun h => (hAa h).2
  have hl7 : L ≤ 1048576 := by omega
  have hl8 : L + x.length ≤ 1048576 := by omega
  clear hod hbe7 ho7 hoa7 Ho6 Hoa6 H6 Hpl hdl hAa
  go_wp2_with (first
    | (at_builtin; refine wpList_unguard (by kernel_rfl) ?_; refine wpList_append_nil w7 rfl _ _ rfl 5 i0 _ 1 1 Try.underlying24 hi0 hz0 hz1 hz2 rfl (by decide) _ Aa L ca (C.map bv) Hha.out (by rfl) hAa' (bv_one C) hl7 (by decide) ?_; clear Hha; intro A8 c8 w8 ho8 _ _ hbe8; have Ho8 := Lib.hid ho8; have Hbe8 := Lib.hid hbe8; have hs8 := hbe8.size; have Hhx8 := Lib.hid (Hhx.out.below hbe8); clear ho8 hbe8)
    | (at_builtin; refine wpList_unguard (by kernel_rfl) ?_; refine wpList_append_all w8 rfl _ _ _ rfl w7.heap.size 5 i0 _ 1 1 Try.underlying24 hi0 hz0 hz1 hz2 rfl (by decide) _ _ _ (by rfl) Ho8.out w7.heap.size A2 x.length c2 (x.map bv) (by rfl) hAc2 Hhx8.out (bv_one x) hl8 (by decide) hs8 ?_; intro v9 w9 ho9 hg9 _; obtain ⟨A9, c9, rfl, _⟩ := own_form ho9; have Ho9 := Lib.hid ho9; have Hbe9 := Lib.hid (Hbe8.out.grown hg9 hs8 fun j hj => (World.ownsRow.lt Ho8.out j hj).1); clear Ho8 Hbe8 ho9 hg9))
  have hS := samekeep_any Ad A9 (L + x.length) (L + x.length) cd c9 (C ++ x) (C ++ x) w9 (Holds.own (own_belowS Hod.out Hbe9.out)) (by have := Holds.own Ho9.out; simpa [List.map_append] using this) hl8 hl8
  refine hS.mono ?_
  rintro e w10 ⟨rfl, kk, rfl⟩
  go_wp2_with fail
  go_ret
  exact ⟨by simp, below_drewN (Hw7.out.trans (Hbe9.out.mono hsw7)) _⟩
namespace diskBehind
open Go.ChangeShapes Go.WideShapes Go.ChangeAt Go.RowKit
theorem own : ownKnob Try.prog.godebug = none := by kernel_rfl
theorem laidOut : laidOutB Try.prog = true := by kernel_rfl
set_option linter.unusedVariables false
set_option maxRecDepth 100000 in
theorem lifted (os : Os) (started : os.Started) (H : Type) (enc : TypeId × Value → H) :
    ReturnsInHanded {} Try.checked os 7 .any (Rows.diskBehindSpec.pre6 enc Try.prog Try.f7 Rows.diskBehindRow.domain false) (Rows.diskBehindSpec.post enc Try.prog Try.f7 false true false false) := by
  refine returnsInHanded_of_change (C := Try.checked) own started (by kernel_rfl) Try.func7
    (ChangeSpec.witness6 (enc := enc) (C := Try.checked) false ⟨#[], #[.slice none 0 0, .slice none 0 0], []⟩ 8 (by kernel_rfl) (by kernel_rfl) (by kernel_rfl) (by kernel_rfl)) ?_
  intro W base args ds gs before hval0 hW hcnd _
  have hval : ∀ (j : Nat) t v, Try.f7.params[j]? = some t → args[j]? = some v → Value.okWide Try.prog W .any base t v := hval0
  have hW' := hW
  obtain ⟨p, q, hA0, hV, rfl, hfz, hnd⟩ := hW
  have hA : DataW.TrodAll enc Try.prog W 0 (fun _ => true) true Try.f7.params.toList args.toList ds p := hA0
  rw [Try.params7] at hA hval
  obtain ⟨v0, vs0, d0, ds0, p0, q0, hargs, rfl, rfl, h0, rr0⟩ := trodAll_cons hA
  obtain ⟨v1, vs1, d1, ds1, p1, q1, rfl, rfl, rfl, h1, rr1⟩ := trodAll_cons rr0
  obtain ⟨rfl, rfl, rfl⟩ := trodAll_nil rr1
  obtain rfl : args = #[v0, v1] := by cases args; simp_all
  obtain ⟨rfl, rfl⟩ := trodVars_none hV
  have k0 := h0
  have lt0 : ∀ x ∈ p0, x.block < W.heap.size := by obtain ⟨m, hm⟩ := k0; exact DataW.trod_lt m _ _ _ hm
  obtain ⟨A0, n0, c0, rfl, hx0⟩ := open_intsl Try.underlying34 Try.underlying3 (by kernel_rfl) (hval 0 34 v0 rfl rfl) h0
  have k1 := h1
  have lt1 : ∀ x ∈ p1, x.block < W.heap.size := by obtain ⟨m, hm⟩ := k1; exact DataW.trod_lt m _ _ _ hm
  obtain ⟨A1, n1, c1, l1, rfl, hx1⟩ := open_bytes Try.underlying24 Try.underlying5 (by kernel_rfl) (hval 1 24 v1 rfl rfl) h1
  clear hA0 hval0
  refine (walkDiskBehind A0 n0 c0 A1 n1 c1 l1 W hx0 hx1).mono fun e W' ⟨he, bel⟩ => ?_
  subst he
  exact ⟨_, rfl, _, _, _, [], _, [], hW', trodAll_mk1 (shut_bool Try.underlying4 _), (trodAll_cons_mk (Below.trod laidOut (by kernel_rfl) (of_decide_eq_true (by kernel_rfl)) k0 bel lt0) (trodAll_cons_mk (Below.trod laidOut (by kernel_rfl) (of_decide_eq_true (by kernel_rfl)) k1 bel lt1) trodAll_mk0)), rfl, bel.frame _, fun h => by cases h⟩

theorem over : Rows.diskBehindRow.holds Try.pinned (OpenSpec.ofChange Rows.diskBehindSpec) :=
  OpenClaim.holds_of_wide 7 Try.f7 rfl rfl rfl rfl rfl rfl rfl ⟨rfl, rfl, rfl, rfl, rfl⟩ rfl rfl rfl rfl rfl (by kernel_rfl) Try.func7 (by kernel_rfl)
    (of_decide_eq_true (by kernel_rfl)) (by unfold Func.isWrapper; first | (rw [if_pos (by decide +kernel)]; kernel_rfl) | (rw [if_neg (by decide +kernel)]; exact ⟨rfl, rfl⟩))
    (fun os started H enc _ => lifted os started H enc)

theorem proved : Rows.DiskBehindSaid := over
#print axioms proved
end diskBehind
end Go.Proofs.Ythkbeliplibiaaa
