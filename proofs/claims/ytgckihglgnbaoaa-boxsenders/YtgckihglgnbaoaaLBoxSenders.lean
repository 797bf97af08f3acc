/- Proved here: transaction numbers of different senders are independent (statement BoxSenders). No condition. -/
import Derived.Test.YtgckihglgnbaoaaBxPd
import Derived.Test.YtgckihglgnbaoaaOpenI
import Derived.HandedShaped
namespace Go.Proofs.Ytgckihglgnbaoaa
set_option linter.unusedVariables false
set_option linter.unusedSimpArgs false
open Go.RowKit
attribute [local go_sem high] str_mk
def sndL (n : Int) (b : List UInt8) : List Pt := [⟨1, [64, 97, 58, 120], n, b, 0⟩, ⟨1, [64, 98, 58, 120], n, b, 0⟩, ⟨1, [64, 97, 58, 120], n, [110, 111], 0⟩, ⟨2, [], 0, [], 0⟩]
theorem snd_R (n : Int) (b : List UInt8) (hn : 0 ≤ n) (hb : b.length ≤ 20) : (gotsB bs0 (sndL n b)).1 = [⟨0, 1, []⟩, ⟨0, 2, []⟩, ⟨0, 2, []⟩, ⟨0, 2, [⟨1, [64, 97, 58, 120], b⟩, ⟨2, [64, 98, 58, 120], b⟩]⟩] := by
  have hu1 : user [64, 97, 58, 120] = some ([97], [120]) := by decide +kernel
  have hu2 : user [64, 98, 58, 120] = some ([98], [120]) := by decide +kernel
  have hn2 : ¬ n < 0 := by omega
  have hb2 : ¬ 20 < b.length := by omega
  have g1 : gotB bs0 ⟨1, [64, 97, 58, 120], n, b, 0⟩ = (⟨0, 1, []⟩, ⟨[⟨1, [64, 97, 58, 120], n, b, 0⟩], 0, false⟩) := by
    have : execB bs0 ⟨1, [64, 97, 58, 120], n, b, 0⟩ = ([], 0, ⟨[⟨1, [64, 97, 58, 120], n, b, 0⟩], 0, false⟩) := by
      unfold execB sendR
      simp [bs0, hu1, hadR, if_neg hn2, if_neg hb2]
    unfold gotB
    rw [this]
    rfl
  have g2 : gotB ⟨[⟨1, [64, 97, 58, 120], n, b, 0⟩], 0, false⟩ ⟨1, [64, 98, 58, 120], n, b, 0⟩ = (⟨0, 2, []⟩, ⟨[⟨1, [64, 97, 58, 120], n, b, 0⟩, ⟨1, [64, 98, 58, 120], n, b, 0⟩], 0, false⟩) := by
    have : execB ⟨[⟨1, [64, 97, 58, 120], n, b, 0⟩], 0, false⟩ ⟨1, [64, 98, 58, 120], n, b, 0⟩ = ([], 0, ⟨[⟨1, [64, 97, 58, 120], n, b, 0⟩, ⟨1, [64, 98, 58, 120], n, b, 0⟩], 0, false⟩) := by
      unfold execB sendR
      simp [hu2, hadR, if_neg hn2, if_neg hb2]
    unfold gotB
    rw [this]
    rfl
  have g3 : gotB ⟨[⟨1, [64, 97, 58, 120], n, b, 0⟩, ⟨1, [64, 98, 58, 120], n, b, 0⟩], 0, false⟩ ⟨1, [64, 97, 58, 120], n, [110, 111], 0⟩ = (⟨0, 2, []⟩, ⟨[⟨1, [64, 97, 58, 120], n, b, 0⟩, ⟨1, [64, 98, 58, 120], n, b, 0⟩], 0, false⟩) := by
    have : execB ⟨[⟨1, [64, 97, 58, 120], n, b, 0⟩, ⟨1, [64, 98, 58, 120], n, b, 0⟩], 0, false⟩ ⟨1, [64, 97, 58, 120], n, [110, 111], 0⟩ = ([], 0, ⟨[⟨1, [64, 97, 58, 120], n, b, 0⟩, ⟨1, [64, 98, 58, 120], n, b, 0⟩], 0, false⟩) := by
      unfold execB sendR
      simp [hu1, hadR, if_neg hn2]
    unfold gotB
    rw [this]
    rfl
  have g4 : gotB ⟨[⟨1, [64, 97, 58, 120], n, b, 0⟩, ⟨1, [64, 98, 58, 120], n, b, 0⟩], 0, false⟩ ⟨2, [], 0, [], 0⟩ = (⟨0, 2, [⟨1, [64, 97, 58, 120], b⟩, ⟨2, [64, 98, 58, 120], b⟩]⟩, ⟨[⟨1, [64, 97, 58, 120], n, b, 0⟩, ⟨1, [64, 98, 58, 120], n, b, 0⟩], 0, false⟩) := by
    have : execB ⟨[⟨1, [64, 97, 58, 120], n, b, 0⟩, ⟨1, [64, 98, 58, 120], n, b, 0⟩], 0, false⟩ ⟨2, [], 0, [], 0⟩ = ([⟨1, [64, 97, 58, 120], b⟩, ⟨2, [64, 98, 58, 120], b⟩], 0, ⟨[⟨1, [64, 97, 58, 120], n, b, 0⟩, ⟨1, [64, 98, 58, 120], n, b, 0⟩], 0, false⟩) := by
      unfold execB fetchR
      simp [Bs.wait, mlF]
    unfold gotB
    rw [this]
    rfl
  unfold sndL
  simp only [gotsB, g1, g2, g3, g4]
set_option maxHeartbeats 4000000 in
set_option maxRecDepth 100000 in
theorem walkBoxSenders (x0 : Int) (x1 : Int) (w : World) (hx0 : -9223372036854775808 ≤ x0 ∧ x0 ≤ 9223372036854775807) (hx1 : -9223372036854775808 ≤ x1 ∧ x1 ≤ 9223372036854775807) (hsh : w.ShapedOpen Try.prog) :
    Calls Try.prog 9 #[.int .i64 x0, .int .i64 x1] w fun e w' => e = .returned (.bool true) ∧ Below w.heap.size w w' := by
  have hg := Gl.of hsh
  have Hg := Lib.hid hg
  obtain ⟨t, ht, ht1⟩ := pick_nat x0 1000 (by decide)
  obtain ⟨r, hr, hr3⟩ := pick_nat x1 3 (by decide)
  have Ht : Hid (x0 % 1000 = (t : Int)) := Lib.hid ht
  have Hr : Hid (x1 % 3 = (r : Int)) := Lib.hid hr
  have hri : (r : Int) < 3 := by omega
  have hbl : (pbo r).length ≤ 20 := by rcases (by omega : r = 0 ∨ r = 1 ∨ r = 2) with rfl | rfl | rfl <;> decide
  obtain ⟨W, hW⟩ : ∃ W, w.alloc (.cells #[str [104, 105], str [121, 111], str []] 9) = W := ⟨_, rfl⟩
  have hWB := Blk.new w 9 #[str [104, 105], str [121, 111], str []]
  have hWb : Below w.heap.size w W := by rw [← hW]; exact (Below.refl _ _).alloc (Nat.le_refl _) _
  rw [hW] at hWB
  have hc : W.cell? ⟨w.heap.size, r, none⟩ = some (str (pbo r)) := (hWB.cell r).trans (pboC_at r hr3)
  have Hsd := Lib.hid (snd_R (t : Int) (pbo r) (by omega) hbl)
  have HgW := Lib.hid (hg.below hWb)
  have HWb := Lib.hid hWb
  have hWl := hWB.lt
  have hcs : ∀ W2 : World, True := fun _ => trivial
  clear hsh hg ht hr hWB hWb hcs
  generalize hbq : pbo r = bq at *
  obtain ⟨W2, hW2⟩ : ∃ W2, W.alloc (.cells #[.int .i64 1, str [64, 97, 58, 120], .int .i64 (t : Int), str bq, .int .i64 0, .int .i64 1, str [64, 98, 58, 120], .int .i64 (t : Int), str bq, .int .i64 0, .int .i64 1, str [64, 97, 58, 120], .int .i64 (t : Int), str [110, 111], .int .i64 0, .int .i64 2, str [], .int .i64 0, str [], .int .i64 0] 43) = W2 := ⟨_, rfl⟩
  have hW2b : Below W.heap.size W W2 := by rw [← hW2]; exact (Below.refl _ _).alloc (Nat.le_refl _) _
  have hW2B := Blk.new W 43 #[.int .i64 1, str [64, 97, 58, 120], .int .i64 (t : Int), str bq, .int .i64 0, .int .i64 1, str [64, 98, 58, 120], .int .i64 (t : Int), str bq, .int .i64 0, .int .i64 1, str [64, 97, 58, 120], .int .i64 (t : Int), str [110, 111], .int .i64 0, .int .i64 2, str [], .int .i64 0, str [], .int .i64 0]
  rw [hW2] at hW2B
  have hlit : LIn ptL 5 W2 W2.heap.size (some ⟨W.heap.size, 0, none⟩) 4 4 (sndL (t : Int) bq) := by
    refine ⟨rfl, by omega, (fun h => by cases h), rfl, fun _ => ⟨W.heap.size, 0, rfl, hW2B.lt, fun j u hu => ?_⟩⟩
    rw [Nat.zero_add, hW2B.cell j]
    simpa [pcK, ptL, sndL] using hu
  have HP := Lib.hid (posted_any _ 4 4 W2.heap.size _ W2 hlit (Nat.le_refl _) (by omega) (HgW.out.below hW2b) (by intro p hp; simp [sndL] at hp; rcases hp with rfl | rfl | rfl | rfl <;> simp [PtOk] <;> omega))
  unfold PdPost at HP
  rw [Hsd.out, show (sndL (t : Int) bq).length = 4 from rfl] at HP
  have heq := fun W => eq_mail 1 [64, 97, 58, 120] bq W
  have heq2 := fun W => eq_mail 2 [64, 98, 58, 120] bq W
  have hgd := fun x y W => gd_mail BinOp.eql x y 1 [64, 97, 58, 120] bq W
  have hgd2 := fun x y W => gd_mail BinOp.eql x y 2 [64, 98, 58, 120] bq W
  have HW2b := Lib.hid hW2b
  clear hlit hW2b hW2B Hsd HgW Hg hbq
  go_enter Try.func9, Try.ntmps9
  go_wp2_with fail
  refine (picked_k x0 1000 _ (by decide) (by decide)).mono ?_
  rintro e w1 ⟨rfl, hw1⟩
  subst hw1
  rw [Ht.out]
  go_wp2_with fail
  refine (picked_k x1 3 _ (by decide) (by decide)).mono ?_
  rintro e w2 ⟨rfl, hw2⟩
  subst hw2
  rw [Hr.out]
  go_wp2_with fail
  refine HP.out.mono ?_
  rintro e w3 ⟨A, c, rfl, ht3, hb3⟩
  obtain ⟨b3, off3, Am, cm, hA3, hbb3, hm3, -, -, hd⟩ := ht3.at_ (i := 3) (by simp)
  subst hA3
  obtain ⟨b2, off2, Am2, cm2, hA2, -, -, h20, h21, -⟩ := ht3.at_ (i := 2) (by simp)
  injection hA2 with hA2
  injection hA2 with e1 e2
  subst e1 e2
  replace hd : w3.cell? ⟨b3, off3 + 3 * 3 + 2, none⟩ = some (.slice Am 2 cm) := hd
  replace h20 : w3.cell? ⟨b3, off3 + 2 * 3, none⟩ = some (.int .i64 0) := h20
  replace h21 : w3.cell? ⟨b3, off3 + 2 * 3 + 1, none⟩ = some (.int .i64 2) := h21
  rw [show off3 + 3 * 3 + 2 = off3 + 11 by omega] at hd
  rw [show off3 + 2 * 3 = off3 + 6 by omega] at h20
  rw [show off3 + 2 * 3 + 1 = off3 + 7 by omega] at h21
  obtain ⟨bm, om, hAm, hbm, m0, m1, m2⟩ := ml_at hm3 (i := 0) (by simp)
  obtain ⟨bm', om', hAm', hbm', n0, n1, n2⟩ := ml_at hm3 (i := 1) (by simp)
  subst hAm
  injection hAm' with hAm'
  injection hAm' with e1 e2
  subst e1 e2
  replace m0 : w3.cell? ⟨bm, om, none⟩ = some (.int .i64 1) := by have := m0; rwa [Nat.zero_mul, Nat.add_zero] at this
  replace m1 : w3.cell? ⟨bm, om + 1, none⟩ = some (str [64, 97, 58, 120]) := by have := m1; rwa [Nat.zero_mul, Nat.add_zero] at this
  replace m2 : w3.cell? ⟨bm, om + 2, none⟩ = some (str bq) := by have := m2; rwa [Nat.zero_mul, Nat.add_zero] at this
  replace n0 : w3.cell? ⟨bm, om + 3, none⟩ = some (.int .i64 2) := by have := n0; rwa [Nat.one_mul] at this
  replace n1 : w3.cell? ⟨bm, om + 4, none⟩ = some (str [64, 98, 58, 120]) := by have := n1; rwa [Nat.one_mul] at this
  replace n2 : w3.cell? ⟨bm, om + 5, none⟩ = some (str bq) := by have := n2; rwa [Nat.one_mul] at this
  have HF := Lib.hid ((HWb.out.trans (HW2b.out.mono HWb.out.size)).trans (hb3.mono (by have := HWb.out.size; have := HW2b.out.size; omega)))
  clear ht3 hb3 hm3 HP
  go_wp2_with fail
  go_ret
  exact ⟨rfl, HF.out⟩
namespace boxSenders
open Go.ChangeShapes Go.WideShapes Go.ChangeAt Go.RowKit
theorem own : ownKnob Try.prog.godebug = none := by kernel_rfl
theorem laidOut : laidOutB Try.prog = true := by kernel_rfl
set_option linter.unusedVariables false
set_option maxRecDepth 100000 in
theorem lifted (os : Os) (started : os.Started) (H : Type) (enc : TypeId × Value → H) :
    ReturnsInHanded {} Try.checked os 9 .any (Rows.boxSendersSpec.pre6 enc Try.prog Try.f9 Rows.boxSendersRow.domain false) (Rows.boxSendersSpec.post enc Try.prog Try.f9 false true false false) := by
  refine returnsInHanded_of_change_shaped (C := Try.checked) own started (by kernel_rfl) Try.func9
    (ChangeSpec.witness6 (enc := enc) (C := Try.checked) false ⟨#[], #[.int .i64 0, .int .i64 0], []⟩ 8 (by kernel_rfl) (by kernel_rfl) (by kernel_rfl) (by kernel_rfl)) ?_
  intro W base args ds gs before hval0 hW hcnd _ hsh0 _
  have hsh : W.ShapedOpen Try.prog := hsh0
  have hval : ∀ (j : Nat) t v, Try.f9.params[j]? = some t → args[j]? = some v → Value.okWide Try.prog W .any base t v := hval0
  have hW' := hW
  obtain ⟨p, q, hA0, hV, rfl, hfz, hnd⟩ := hW
  have hA : DataW.TrodAll enc Try.prog W 0 (fun _ => true) true Try.f9.params.toList args.toList ds p := hA0
  rw [Try.params9] at hA hval
  obtain ⟨v0, vs0, d0, ds0, p0, q0, hargs, rfl, rfl, h0, rr0⟩ := trodAll_cons hA
  obtain ⟨v1, vs1, d1, ds1, p1, q1, rfl, rfl, rfl, h1, rr1⟩ := trodAll_cons rr0
  obtain ⟨rfl, rfl, rfl⟩ := trodAll_nil rr1
  obtain rfl : args = #[v0, v1] := by cases args; simp_all
  obtain ⟨rfl, rfl⟩ := trodVars_none hV
  have k0 := h0
  have lt0 : ∀ x ∈ p0, x.block < W.heap.size := by obtain ⟨m, hm⟩ := k0; exact DataW.trod_lt m _ _ _ hm
  obtain ⟨x0, rfl, hx0⟩ := open_i64 Try.underlying3 (hval 0 3 v0 rfl rfl) h0
  have k1 := h1
  have lt1 : ∀ x ∈ p1, x.block < W.heap.size := by obtain ⟨m, hm⟩ := k1; exact DataW.trod_lt m _ _ _ hm
  obtain ⟨x1, rfl, hx1⟩ := open_i64 Try.underlying3 (hval 1 3 v1 rfl rfl) h1
  clear hA0 hval0
  refine (walkBoxSenders x0 x1 W hx0 hx1 hsh).mono fun e W' ⟨he, bel⟩ => ?_
  subst he
  exact ⟨_, rfl, _, _, _, [], _, [], hW', trodAll_mk1 (shut_bool Try.underlying4 _), (trodAll_cons_mk (Below.trod laidOut (by kernel_rfl) (of_decide_eq_true (by kernel_rfl)) k0 bel lt0) (trodAll_cons_mk (Below.trod laidOut (by kernel_rfl) (of_decide_eq_true (by kernel_rfl)) k1 bel lt1) trodAll_mk0)), rfl, bel.frame _, fun h => by cases h⟩

theorem over : Rows.boxSendersRow.holds Try.pinned (OpenSpec.ofChange Rows.boxSendersSpec) :=
  OpenClaim.holds_of_wide 9 Try.f9 rfl rfl rfl rfl rfl rfl rfl ⟨rfl, rfl, rfl, rfl, rfl⟩ rfl rfl rfl rfl rfl (by kernel_rfl) Try.func9 (by kernel_rfl)
    (of_decide_eq_true (by kernel_rfl)) (by unfold Func.isWrapper; first | (rw [if_pos (by decide +kernel)]; kernel_rfl) | (rw [if_neg (by decide +kernel)]; exact ⟨rfl, rfl⟩))
    (fun os started H enc _ => lifted os started H enc)

theorem proved : Rows.BoxSendersSaid := over
#print axioms proved
end boxSenders
end Go.Proofs.Ytgckihglgnbaoaa
