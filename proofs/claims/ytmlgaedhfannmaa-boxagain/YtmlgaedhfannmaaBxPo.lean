/- The message box: Posts at every slice of numbers. -/
import Derived.Test.YtmlgaedhfannmaaBxPoI
import Derived.Test.YtmlgaedhfannmaaBxPlay
import Derived.Test.YtmlgaedhfannmaaBunO
namespace Go.Proofs.Ytmlgaedhfannmaa
set_option linter.unusedVariables false
set_option linter.unusedSimpArgs false
open Go.RowKit
/-- A post that is drawn. -/
def OkP (p : Pt) : Prop := (p.kind = 1 ∧ (∃ i, i < 3 ∧ p.frm = pfo i) ∧ (∃ t : Nat, t < 12 ∧ p.txn = (t : Int)) ∧ (∃ r, r < 3 ∧ p.body = pbo r) ∧ p.since = 0) ∨
  (p.kind = 2 ∧ p.frm = [] ∧ p.txn = 0 ∧ p.body = [] ∧ ∃ c : Nat, c < 14 ∧ p.since = (c : Int)) ∨ p.kind = 3 ∧ p.frm = [] ∧ p.txn = 0 ∧ p.body = [] ∧ p.since = 0
theorem okP_send (F B : List UInt8) (q : Nat) (h1 : ∃ i, i < 3 ∧ F = pfo i) (h2 : q < 12) (h3 : ∃ r, r < 3 ∧ B = pbo r) : OkP ⟨1, F, (q : Int), B, 0⟩ := .inl ⟨rfl, h1, ⟨q, h2, rfl⟩, h3, rfl⟩
theorem okP_fetch (c : Nat) (h : c < 14) : OkP ⟨2, [], 0, [], (c : Int)⟩ := .inr (.inl ⟨rfl, rfl, rfl, rfl, c, h, rfl⟩)
theorem okP_shut : OkP ⟨3, [], 0, [], 0⟩ := .inr (.inr ⟨rfl, rfl, rfl, rfl, rfl⟩)
def PosR (n lim : Nat) (w : World) (gk : Nat) (s5 s6 : Value) (wr : World) : Prop :=
  ∃ (k : Nat) (l : List Pt), s6 = .int .i64 (k : Int) ∧ k ≤ lim ∧ k ≤ n ∧ gk = lim - k ∧ l.length = k ∧ (∀ a ∈ l, OkP a) ∧ wr.ownsRow w.heap.size 76 5 s5 k (pcK ptL l) ∧ Below w.heap.size w wr
set_option maxHeartbeats 8000000 in
set_option maxRecDepth 100000 in
theorem posts_any (A : Option Addr) (n c B lim : Nat) (w : World) (hx : IntsAt w B A n c) (hB : B ≤ w.heap.size) (hlim : lim ≤ 100) :
    Calls Try.prog 28 #[.slice A n c, .int .i64 (lim : Int)] w fun e w' => ∃ v l, e = .returned v ∧ w'.ownsRow w.heap.size 76 5 v l.length (pcK ptL l) ∧ l.length = min n lim ∧ (∀ a ∈ l, OkP a) ∧ Below w.heap.size w w' := by
  have Hx := Lib.hid hx
  clear hx
  go_enter Try.func28, Try.ntmps28
  go_wp2_with fail
  go_loopg [5, 6] lim (PosR n lim w)
  case atStart => exact ⟨0, [], rfl, Nat.zero_le _, Nat.zero_le _, by omega, rfl, by simp, World.ownsRow_nil _ _ _ _, Below.refl _ _⟩
  case round =>
    obtain ⟨k, l, rfl, hk, hkn', hgk, hcl, hdr, ho, hbe⟩ := hrel
    have Hgk := Lib.hid hgk
    have Ho := Lib.hid ho
    have Hbe := Lib.hid hbe
    have Hcl := Lib.hid hcl
    have Hdr := Lib.hid hdr
    have hszw := hbe.size
    clear hgk ho hbe hcl hdr
    by_cases hkn : k < n
    · by_cases hkl : k < lim
      · have hi1 : (k : Int) < (n : Int) := by omega
        have hi2 : (k : Int) < (lim : Int) := by omega
        obtain ⟨b, off, z, hA, hbB, hc0, hz1, hz2⟩ := (Hx.out.below (Hbe.out.mono hB)).at hkn
        subst hA
        have hbw : b < wr.heap.size := by omega
        obtain ⟨p, hp, hp2⟩ := pick_nat z 3 (by decide)
        obtain ⟨q, hq, hq12⟩ := pick_nat (z.tdiv 3) 12 (by decide)
        obtain ⟨r, hr, hr3⟩ := pick_nat (z.tdiv 36) 3 (by decide)
        obtain ⟨c4, hc4, hc44⟩ := pick_nat (z.tdiv 108) 4 (by decide)
        obtain ⟨c14, hc14, hc1414⟩ := pick_nat (z.tdiv 3) 14 (by decide)
        obtain ⟨c40, hc40, hc4040⟩ := pick_nat (z.tdiv 108) 40 (by decide)
        have Hp : Hid (z % 3 = (p : Int)) := Lib.hid hp
        have Hq : Hid ((z.tdiv 3) % 12 = (q : Int)) := Lib.hid hq
        have Hr : Hid ((z.tdiv 36) % 3 = (r : Int)) := Lib.hid hr
        have Hc4 : Hid ((z.tdiv 108) % 4 = (c4 : Int)) := Lib.hid hc4
        have Hc14 : Hid ((z.tdiv 3) % 14 = (c14 : Int)) := Lib.hid hc14
        have Hc40 : Hid ((z.tdiv 108) % 40 = (c40 : Int)) := Lib.hid hc40
        have hpi : (p : Int) < 3 := by omega
        have hri : (r : Int) < 3 := by omega
        have hw3 := quo_in z 3 hz1 hz2 (by decide)
        have hw36 := quo_in z 36 hz1 hz2 (by decide)
        have hw108 := quo_in z 108 hz1 hz2 (by decide)
        clear hp hq hr hc4 hc14 hc40
        go_wp2_with fail
        refine region_S (fun w' => Below wr.heap.size wr w') [] (by kernel_rfl) ?_
        have hS0 : Below wr.heap.size wr wr.drew := (Below.refl _ _).drew
        refine anyS_take 1 (v := .int .i64 z) rfl (by kernel_rfl) (by kernel_rfl) (by kernel_rfl) (by kernel_rfl) (fun _ _ _ h => h) (.inl ⟨by kernel_rfl, fun w' hS' => by kernel_rfl⟩) hS0 ?_
        refine anyS_take 5 (v := .int .i64 z) rfl (by kernel_rfl) (by kernel_rfl) (by kernel_rfl) (by kernel_rfl) (fun _ _ _ h => h) (.inl ⟨by kernel_rfl, fun w' hS' => by kernel_rfl⟩) hS0 ?_
        refine anyS_take 6 (v := .int .i64 (z.tdiv 3)) rfl (by kernel_rfl) (by kernel_rfl) (by kernel_rfl) (by kernel_rfl) (fun _ _ _ h => h) (.inl ⟨by kernel_rfl, fun w' hS' => by go_simp⟩) hS0 ?_
        refine anyS_take 9 (v := .int .i64 z) rfl (by kernel_rfl) (by kernel_rfl) (by kernel_rfl) (by kernel_rfl) (fun _ _ _ h => h) (.inl ⟨by kernel_rfl, fun w' hS' => by kernel_rfl⟩) hS0 ?_
        refine anyS_take 10 (v := .int .i64 (z.tdiv 36)) rfl (by kernel_rfl) (by kernel_rfl) (by kernel_rfl) (by kernel_rfl) (fun _ _ _ h => h) (.inl ⟨by kernel_rfl, fun w' hS' => by go_simp⟩) hS0 ?_
        refine anyS_inv (I := InvP (.slice (some ⟨b, off, none⟩) n c) (.int .i64 (lim : Int)) u5 (.int .i64 (k : Int)) z p q r wr) ?_ ?_ ?_ _ _ _ _ ?_ ?_
        · rintro l a w ⟨b0, b2, b3, b4, b7, b8, b11, b12, b13, b14, b15, b16, g0, g8, g15, rfl, hd, hsz, ⟨t0, t1, t2, t3, t4, t5, t6, t7, t56, t25, t30, t34⟩, f0, f2, f3, f4, f7, f8, f11, f12, f13, f14, f15, f16, hb⟩
          exact hb
        · rintro l' a w5 ⟨b0, b2, b3, b4, b7, b8, b11, b12, b13, b14, b15, b16, g0, g8, g15, rfl, hd, hsz, ⟨t0, t1, t2, t3, t4, t5, t6, t7, t56, t25, t30, t34⟩, f0, f2, f3, f4, f7, f8, f11, f12, f13, f14, f15, f16, hb⟩ hr
          have q0 : b0 = true := by
            cases b0 with
            | true => rfl
            | false =>
              have hc := congrArg (fun r : List Nat => r.contains 0) hr
              have ht : true = false := Eq.trans (by kernel_rfl) hc
              cases ht
          subst q0
          have q2 : b2 = true := by
            cases b2 with
            | true => rfl
            | false =>
              have hc := congrArg (fun r : List Nat => r.contains 2) hr
              have ht : true = false := Eq.trans (by kernel_rfl) hc
              cases ht
          subst q2
          have q3 : b3 = true := by
            cases b3 with
            | true => rfl
            | false =>
              have hc := congrArg (fun r : List Nat => r.contains 3) hr
              have ht : true = false := Eq.trans (by kernel_rfl) hc
              cases ht
          subst q3
          have q4 : b4 = true := by
            cases b4 with
            | true => rfl
            | false =>
              have hc := congrArg (fun r : List Nat => r.contains 4) hr
              have ht : true = false := Eq.trans (by kernel_rfl) hc
              cases ht
          subst q4
          have q7 : b7 = true := by
            cases b7 with
            | true => rfl
            | false =>
              have hc := congrArg (fun r : List Nat => r.contains 7) hr
              have ht : true = false := Eq.trans (by kernel_rfl) hc
              cases ht
          subst q7
          have q8 : b8 = true := by
            cases b8 with
            | true => rfl
            | false =>
              have hc := congrArg (fun r : List Nat => r.contains 8) hr
              have ht : true = false := Eq.trans (by kernel_rfl) hc
              cases ht
          subst q8
          have q11 : b11 = true := by
            cases b11 with
            | true => rfl
            | false =>
              have hc := congrArg (fun r : List Nat => r.contains 11) hr
              have ht : true = false := Eq.trans (by kernel_rfl) hc
              cases ht
          subst q11
          have q12 : b12 = true := by
            cases b12 with
            | true => rfl
            | false =>
              have hc := congrArg (fun r : List Nat => r.contains 12) hr
              have ht : true = false := Eq.trans (by kernel_rfl) hc
              cases ht
          subst q12
          have q13 : b13 = true := by
            cases b13 with
            | true => rfl
            | false =>
              have hc := congrArg (fun r : List Nat => r.contains 13) hr
              have ht : true = false := Eq.trans (by kernel_rfl) hc
              cases ht
          subst q13
          have q14 : b14 = true := by
            cases b14 with
            | true => rfl
            | false =>
              have hc := congrArg (fun r : List Nat => r.contains 14) hr
              have ht : true = false := Eq.trans (by kernel_rfl) hc
              cases ht
          subst q14
          have q15 : b15 = true := by
            cases b15 with
            | true => rfl
            | false =>
              have hc := congrArg (fun r : List Nat => r.contains 15) hr
              have ht : true = false := Eq.trans (by kernel_rfl) hc
              cases ht
          subst q15
          have q16 : b16 = true := by
            cases b16 with
            | true => rfl
            | false =>
              have hc := congrArg (fun r : List Nat => r.contains 16) hr
              have ht : true = false := Eq.trans (by kernel_rfl) hc
              cases ht
          subst q16
          obtain ⟨ux, hgx, -⟩ := f15 rfl
          obtain ⟨-, hB⟩ := f16 rfl
          obtain ⟨x0, x1, x2, x3, x4, x5, x6, x7, x8, x9, x10, x11, x12, x13, x14, x15, x16, x17, x18, x19, x20, x21, x22, x23, x24, x25, x26, x27, x28, x29, x30, x31, x32, x33, x34, x35, x36, x37, x38, x39, x40, x41, x42, x43, x44, x45, x46, x47, x48, x49, x50, x51, x52, x53, x54, x55, x56, ht⟩ := tmps57 hsz
          obtain ⟨tm, df⟩ := a
          replace ht : tm = _ := ht
          replace hd : df = [] := hd
          subst ht hd
          replace t0 : x0 = _ := t0
          replace t1 : x1 = _ := t1
          replace t2 : x2 = _ := t2
          replace t3 : x3 = _ := t3
          replace t4 : x4 = _ := t4
          replace t5 : x5 = _ := t5
          replace t6 : x6 = _ := t6
          replace t7 : x7 = _ := t7
          replace t56 : x56 = _ := t56
          replace t25 : x25 = _ := t25
          replace t30 : x30 = _ := t30
          replace t34 : x34 = _ := t34
          replace ux : x8 = _ := ux
          subst t0 t1 t2 t3 t4 t6 t7 t56 ux
          subst x5
          have c0 : w5.cell? ⟨g15, 0, none⟩ = some (.int .i64 1) := hB.cell 0
          have c1 : w5.cell? ⟨g15, 1, none⟩ = some (str (pfo p)) := hB.cell 1
          have c2 : w5.cell? ⟨g15, 2, none⟩ = some (.int .i64 (q : Int)) := hB.cell 2
          have c3 : w5.cell? ⟨g15, 3, none⟩ = some (str (pbo r)) := hB.cell 3
          have ce4 : w5.cell? ⟨g15, 4, none⟩ = some (.int .i64 0) := hB.cell 4
          have r0 := hB.frozen 0
          have r1 := hB.frozen 1
          have r2 := hB.frozen 2
          have r3 := hB.frozen 3
          have r4 := hB.frozen 4
          have hgl := hB.lt
          have HB := Lib.hid hB
          have Hb := Lib.hid hb
          have Hfq := Lib.hid (show ∃ i, i < 3 ∧ pfo p = pfo i from ⟨p, hp2, rfl⟩)
          have Hbq := Lib.hid (show ∃ r', r' < 3 ∧ pbo r = pbo r' from ⟨r, hr3, rfl⟩)
          have HQ12 := Lib.hid hq12
          have HC14 := Lib.hid hc1414
          clear hB hb f0 f2 f3 f4 f7 f8 f11 f12 f13 f14 f15 f16 hsz t25 t30 t34 hr hS0
          generalize hfq : pfo p = fq at *
          generalize hbq : pbo r = bq at *
          clear hfq hbq
          go_wp2_with fail
          refine (picked_k (z.tdiv 108) 4 _ (by decide) (by decide)).mono ?_
          rintro e w6 ⟨rfl, hw6⟩
          subst hw6
          rw [Hc4.out]
          by_cases x4 : c4 = 0
          · subst x4
            go_wp2_with fail
            refine (picked_k (z.tdiv 3) 14 _ (by decide) (by decide)).mono ?_
            rintro e w7 ⟨rfl, hw7⟩
            subst hw7
            rw [Hc14.out]
            have hB7 : Blk (((((w7.setCell ⟨g15, 0, none⟩ (.int .i64 2)).setCell ⟨g15, 1, none⟩ (.string ⟨#[]⟩)).setCell ⟨g15, 2, none⟩ (.int .i64 0)).setCell ⟨g15, 3, none⟩ (.string ⟨#[]⟩)).setCell ⟨g15, 4, none⟩ (.int .i64 (c14 : Int))) g15 76 #[.int .i64 2, .string ⟨#[]⟩, .int .i64 0, .string ⟨#[]⟩, .int .i64 (c14 : Int)] := (((((HB.out.set_ 0 _).set_ 1 _).set_ 2 _).set_ 3 _).set_ 4 _)
            have hb7 : Below wr.heap.size wr (((((w7.setCell ⟨g15, 0, none⟩ (.int .i64 2)).setCell ⟨g15, 1, none⟩ (.string ⟨#[]⟩)).setCell ⟨g15, 2, none⟩ (.int .i64 0)).setCell ⟨g15, 3, none⟩ (.string ⟨#[]⟩)).setCell ⟨g15, 4, none⟩ (.int .i64 (c14 : Int))) := (((((Hb.out.setCell (p := ⟨g15, 0, none⟩) hgx _).setCell (p := ⟨g15, 1, none⟩) hgx _).setCell (p := ⟨g15, 2, none⟩) hgx _).setCell (p := ⟨g15, 3, none⟩) hgx _).setCell (p := ⟨g15, 4, none⟩) hgx _)
            obtain ⟨W7, hW7⟩ : ∃ x, (((((w7.setCell ⟨g15, 0, none⟩ (.int .i64 2)).setCell ⟨g15, 1, none⟩ (.string ⟨#[]⟩)).setCell ⟨g15, 2, none⟩ (.int .i64 0)).setCell ⟨g15, 3, none⟩ (.string ⟨#[]⟩)).setCell ⟨g15, 4, none⟩ (.int .i64 (c14 : Int))) = x := ⟨_, rfl⟩
            rw [hW7] at hB7 hb7
            have Hb7 := Lib.hid hb7
            have HB7 := Lib.hid hB7
            have d07 : W7.cell? ⟨g15, 0, none⟩ = some (.int .i64 2) := hB7.cell 0
            have d17 : W7.cell? ⟨g15, 1, none⟩ = some (.string ⟨#[]⟩) := hB7.cell 1
            have d27 : W7.cell? ⟨g15, 2, none⟩ = some (.int .i64 0) := hB7.cell 2
            have d37 : W7.cell? ⟨g15, 3, none⟩ = some (.string ⟨#[]⟩) := hB7.cell 3
            have d47 : W7.cell? ⟨g15, 4, none⟩ = some (.int .i64 (c14 : Int)) := hB7.cell 4
            have r07 := hB7.frozen 0
            have r17 := hB7.frozen 1
            have r27 := hB7.frozen 2
            have r37 := hB7.frozen 3
            have r47 := hB7.frozen 4
            have hgl7 := hB7.lt
            clear hB7 hb7
            go_wp2_with fail
            refine (picked_k (z.tdiv 108) 40 _ (by decide) (by decide)).mono ?_
            rintro e w7 ⟨rfl, hw7⟩
            subst hw7
            rw [Hc40.out]
            by_cases x40 : c40 = 1
            · subst x40
              have hB8 : Blk (((((w7.setCell ⟨g15, 0, none⟩ (.int .i64 3)).setCell ⟨g15, 1, none⟩ (.string ⟨#[]⟩)).setCell ⟨g15, 2, none⟩ (.int .i64 0)).setCell ⟨g15, 3, none⟩ (.string ⟨#[]⟩)).setCell ⟨g15, 4, none⟩ (.int .i64 0)) g15 76 #[.int .i64 3, .string ⟨#[]⟩, .int .i64 0, .string ⟨#[]⟩, .int .i64 0] := (((((HB7.out.set_ 0 _).set_ 1 _).set_ 2 _).set_ 3 _).set_ 4 _)
              have hb8 : Below wr.heap.size wr (((((w7.setCell ⟨g15, 0, none⟩ (.int .i64 3)).setCell ⟨g15, 1, none⟩ (.string ⟨#[]⟩)).setCell ⟨g15, 2, none⟩ (.int .i64 0)).setCell ⟨g15, 3, none⟩ (.string ⟨#[]⟩)).setCell ⟨g15, 4, none⟩ (.int .i64 0)) := (((((Hb7.out.setCell (p := ⟨g15, 0, none⟩) hgx _).setCell (p := ⟨g15, 1, none⟩) hgx _).setCell (p := ⟨g15, 2, none⟩) hgx _).setCell (p := ⟨g15, 3, none⟩) hgx _).setCell (p := ⟨g15, 4, none⟩) hgx _)
              obtain ⟨W8, hW8⟩ : ∃ x, (((((w7.setCell ⟨g15, 0, none⟩ (.int .i64 3)).setCell ⟨g15, 1, none⟩ (.string ⟨#[]⟩)).setCell ⟨g15, 2, none⟩ (.int .i64 0)).setCell ⟨g15, 3, none⟩ (.string ⟨#[]⟩)).setCell ⟨g15, 4, none⟩ (.int .i64 0)) = x := ⟨_, rfl⟩
              rw [hW8] at hB8 hb8
              have Hb8 := Lib.hid hb8
              have HB8 := Lib.hid hB8
              have d08 : W8.cell? ⟨g15, 0, none⟩ = some (.int .i64 3) := hB8.cell 0
              have d18 : W8.cell? ⟨g15, 1, none⟩ = some (.string ⟨#[]⟩) := hB8.cell 1
              have d28 : W8.cell? ⟨g15, 2, none⟩ = some (.int .i64 0) := hB8.cell 2
              have d38 : W8.cell? ⟨g15, 3, none⟩ = some (.string ⟨#[]⟩) := hB8.cell 3
              have d48 : W8.cell? ⟨g15, 4, none⟩ = some (.int .i64 0) := hB8.cell 4
              have r08 := hB8.frozen 0
              have r18 := hB8.frozen 1
              have r28 := hB8.frozen 2
              have r38 := hB8.frozen 3
              have r48 := hB8.frozen 4
              have hgl8 := hB8.lt
              clear hB8 hb8
              have how := own_below Ho.out Hb8.out
              have hsz6 := Hb8.out.size
              obtain ⟨v', wf, hrun, ho', hg', -⟩ := run_app_el (P := Try.prog) (enc := ptL) ptL_len ptL_one (by omega) Try.underlying70 info_post rfl (by omega) W8 w.heap.size k _ l ⟨3, [], 0, [], 0⟩ #[.int .i64 3, .string ⟨#[]⟩, .int .i64 0, .string ⟨#[]⟩, .int .i64 0] rfl how (by omega) (by omega)
              have Hrun := Lib.hid hrun
              have Ho' := Lib.hid ho'
              have Hb' := Lib.hid (below_own ((Hbe.out.trans (Hb8.out.mono hszw)).alloc (by omega) _) hg' (how.alloc _) (Nat.le_refl _) (by simp; omega))
              have Hdr' := Lib.hid (show ∀ a ∈ l ++ [⟨3, [], 0, [], 0⟩], OkP a from fun a ha => by
                rcases List.mem_append.1 ha with ha | ha
                · exact Hdr.out a ha
                · have e : a = ⟨3, [], 0, [], 0⟩ := by simpa using ha
                  rw [e]
                  exact okP_shut)
              have Hcl' := Lib.hid (show (l ++ [(⟨3, [], 0, [], 0⟩ : Pt)]).length = k + 1 by rw [List.length_append, Hcl.out]; rfl)
              clear hrun ho' hg' how
              go_wp2_with (first | (at_builtin; refine bx_app rfl _ _ _ rfl _ _ (by rfl) (by rfl) Hrun.out ?_; clear Hrun) | fail)
              go_roundg (lim - (k + 1))
              case measure => have := Hgk.out; omega
              case rel => exact ⟨k + 1, _, by go_num, by omega, by omega, rfl, Hcl'.out, Hdr'.out, Ho'.out, Hb'.out⟩
            · have m40 : ((c40 : Int) == 1) = false := by rw [beq_eq_false_iff_ne]; omega
              have how := own_below Ho.out Hb7.out
              have hsz6 := Hb7.out.size
              obtain ⟨v', wf, hrun, ho', hg', -⟩ := run_app_el (P := Try.prog) (enc := ptL) ptL_len ptL_one (by omega) Try.underlying70 info_post rfl (by omega) w7 w.heap.size k _ l ⟨2, [], 0, [], (c14 : Int)⟩ #[.int .i64 2, .string ⟨#[]⟩, .int .i64 0, .string ⟨#[]⟩, .int .i64 (c14 : Int)] rfl how (by omega) (by omega)
              have Hrun := Lib.hid hrun
              have Ho' := Lib.hid ho'
              have Hb' := Lib.hid (below_own ((Hbe.out.trans (Hb7.out.mono hszw)).alloc (by omega) _) hg' (how.alloc _) (Nat.le_refl _) (by simp; omega))
              have Hdr' := Lib.hid (show ∀ a ∈ l ++ [⟨2, [], 0, [], (c14 : Int)⟩], OkP a from fun a ha => by
                rcases List.mem_append.1 ha with ha | ha
                · exact Hdr.out a ha
                · have e : a = ⟨2, [], 0, [], (c14 : Int)⟩ := by simpa using ha
                  rw [e]
                  exact okP_fetch _ HC14.out)
              have Hcl' := Lib.hid (show (l ++ [(⟨2, [], 0, [], (c14 : Int)⟩ : Pt)]).length = k + 1 by rw [List.length_append, Hcl.out]; rfl)
              clear hrun ho' hg' how
              go_wp2_with (first | (at_builtin; refine bx_app rfl _ _ _ rfl _ _ (by rfl) (by rfl) Hrun.out ?_; clear Hrun) | fail)
              go_roundg (lim - (k + 1))
              case measure => have := Hgk.out; omega
              case rel => exact ⟨k + 1, _, by go_num, by omega, by omega, rfl, Hcl'.out, Hdr'.out, Ho'.out, Hb'.out⟩
          · have m4 : ((c4 : Int) == 0) = false := by rw [beq_eq_false_iff_ne]; omega
            go_wp2_with fail
            refine (picked_k (z.tdiv 108) 40 _ (by decide) (by decide)).mono ?_
            rintro e w7 ⟨rfl, hw7⟩
            subst hw7
            rw [Hc40.out]
            by_cases x40 : c40 = 1
            · subst x40
              have hB8 : Blk (((((w7.setCell ⟨g15, 0, none⟩ (.int .i64 3)).setCell ⟨g15, 1, none⟩ (.string ⟨#[]⟩)).setCell ⟨g15, 2, none⟩ (.int .i64 0)).setCell ⟨g15, 3, none⟩ (.string ⟨#[]⟩)).setCell ⟨g15, 4, none⟩ (.int .i64 0)) g15 76 #[.int .i64 3, .string ⟨#[]⟩, .int .i64 0, .string ⟨#[]⟩, .int .i64 0] := (((((HB.out.set_ 0 _).set_ 1 _).set_ 2 _).set_ 3 _).set_ 4 _)
              have hb8 : Below wr.heap.size wr (((((w7.setCell ⟨g15, 0, none⟩ (.int .i64 3)).setCell ⟨g15, 1, none⟩ (.string ⟨#[]⟩)).setCell ⟨g15, 2, none⟩ (.int .i64 0)).setCell ⟨g15, 3, none⟩ (.string ⟨#[]⟩)).setCell ⟨g15, 4, none⟩ (.int .i64 0)) := (((((Hb.out.setCell (p := ⟨g15, 0, none⟩) hgx _).setCell (p := ⟨g15, 1, none⟩) hgx _).setCell (p := ⟨g15, 2, none⟩) hgx _).setCell (p := ⟨g15, 3, none⟩) hgx _).setCell (p := ⟨g15, 4, none⟩) hgx _)
              obtain ⟨W8, hW8⟩ : ∃ x, (((((w7.setCell ⟨g15, 0, none⟩ (.int .i64 3)).setCell ⟨g15, 1, none⟩ (.string ⟨#[]⟩)).setCell ⟨g15, 2, none⟩ (.int .i64 0)).setCell ⟨g15, 3, none⟩ (.string ⟨#[]⟩)).setCell ⟨g15, 4, none⟩ (.int .i64 0)) = x := ⟨_, rfl⟩
              rw [hW8] at hB8 hb8
              have Hb8 := Lib.hid hb8
              have HB8 := Lib.hid hB8
              have d08 : W8.cell? ⟨g15, 0, none⟩ = some (.int .i64 3) := hB8.cell 0
              have d18 : W8.cell? ⟨g15, 1, none⟩ = some (.string ⟨#[]⟩) := hB8.cell 1
              have d28 : W8.cell? ⟨g15, 2, none⟩ = some (.int .i64 0) := hB8.cell 2
              have d38 : W8.cell? ⟨g15, 3, none⟩ = some (.string ⟨#[]⟩) := hB8.cell 3
              have d48 : W8.cell? ⟨g15, 4, none⟩ = some (.int .i64 0) := hB8.cell 4
              have r08 := hB8.frozen 0
              have r18 := hB8.frozen 1
              have r28 := hB8.frozen 2
              have r38 := hB8.frozen 3
              have r48 := hB8.frozen 4
              have hgl8 := hB8.lt
              clear hB8 hb8
              have how := own_below Ho.out Hb8.out
              have hsz6 := Hb8.out.size
              obtain ⟨v', wf, hrun, ho', hg', -⟩ := run_app_el (P := Try.prog) (enc := ptL) ptL_len ptL_one (by omega) Try.underlying70 info_post rfl (by omega) W8 w.heap.size k _ l ⟨3, [], 0, [], 0⟩ #[.int .i64 3, .string ⟨#[]⟩, .int .i64 0, .string ⟨#[]⟩, .int .i64 0] rfl how (by omega) (by omega)
              have Hrun := Lib.hid hrun
              have Ho' := Lib.hid ho'
              have Hb' := Lib.hid (below_own ((Hbe.out.trans (Hb8.out.mono hszw)).alloc (by omega) _) hg' (how.alloc _) (Nat.le_refl _) (by simp; omega))
              have Hdr' := Lib.hid (show ∀ a ∈ l ++ [⟨3, [], 0, [], 0⟩], OkP a from fun a ha => by
                rcases List.mem_append.1 ha with ha | ha
                · exact Hdr.out a ha
                · have e : a = ⟨3, [], 0, [], 0⟩ := by simpa using ha
                  rw [e]
                  exact okP_shut)
              have Hcl' := Lib.hid (show (l ++ [(⟨3, [], 0, [], 0⟩ : Pt)]).length = k + 1 by rw [List.length_append, Hcl.out]; rfl)
              clear hrun ho' hg' how
              go_wp2_with (first | (at_builtin; refine bx_app rfl _ _ _ rfl _ _ (by rfl) (by rfl) Hrun.out ?_; clear Hrun) | fail)
              go_roundg (lim - (k + 1))
              case measure => have := Hgk.out; omega
              case rel => exact ⟨k + 1, _, by go_num, by omega, by omega, rfl, Hcl'.out, Hdr'.out, Ho'.out, Hb'.out⟩
            · have m40 : ((c40 : Int) == 1) = false := by rw [beq_eq_false_iff_ne]; omega
              have how := own_below Ho.out Hb.out
              have hsz6 := Hb.out.size
              obtain ⟨v', wf, hrun, ho', hg', -⟩ := run_app_el (P := Try.prog) (enc := ptL) ptL_len ptL_one (by omega) Try.underlying70 info_post rfl (by omega) w7 w.heap.size k _ l ⟨1, fq, (q : Int), bq, 0⟩ #[.int .i64 1, str fq, .int .i64 (q : Int), str bq, .int .i64 0] rfl how (by omega) (by omega)
              have Hrun := Lib.hid hrun
              have Ho' := Lib.hid ho'
              have Hb' := Lib.hid (below_own ((Hbe.out.trans (Hb.out.mono hszw)).alloc (by omega) _) hg' (how.alloc _) (Nat.le_refl _) (by simp; omega))
              have Hdr' := Lib.hid (show ∀ a ∈ l ++ [⟨1, fq, (q : Int), bq, 0⟩], OkP a from fun a ha => by
                rcases List.mem_append.1 ha with ha | ha
                · exact Hdr.out a ha
                · have e : a = ⟨1, fq, (q : Int), bq, 0⟩ := by simpa using ha
                  rw [e]
                  exact okP_send _ _ _ Hfq.out HQ12.out Hbq.out)
              have Hcl' := Lib.hid (show (l ++ [(⟨1, fq, (q : Int), bq, 0⟩ : Pt)]).length = k + 1 by rw [List.length_append, Hcl.out]; rfl)
              clear hrun ho' hg' how
              go_wp2_with (first | (at_builtin; refine bx_app rfl _ _ _ rfl _ _ (by rfl) (by rfl) Hrun.out ?_; clear Hrun) | fail)
              go_roundg (lim - (k + 1))
              case measure => have := Hgk.out; omega
              case rel => exact ⟨k + 1, _, by go_num, by omega, by omega, rfl, Hcl'.out, Hdr'.out, Ho'.out, Hb'.out⟩
        · intro l a w i h hi
          obtain ⟨b0, b2, b3, b4, b7, b8, b11, b12, b13, b14, b15, b16, g0, g8, g15, rfl, hd, hsz, ⟨t0, t1, t2, t3, t4, t5, t6, t7, t56, t25, t30, t34⟩, f0, f2, f3, f4, f7, f8, f11, f12, f13, f14, f15, f16, hb⟩ := h
          obtain ⟨hun, oj, hoj, hall⟩ := mem_ready.1 hi
          have hin : i < 17 := (Array.getElem?_eq_some_iff.1 hoj).1
          rcases (by omega : i = 0 ∨ i = 1 ∨ i = 2 ∨ i = 3 ∨ i = 4 ∨ i = 5 ∨ i = 6 ∨ i = 7 ∨ i = 8 ∨ i = 9 ∨ i = 10 ∨ i = 11 ∨ i = 12 ∨ i = 13 ∨ i = 14 ∨ i = 15 ∨ i = 16) with rfl | rfl | rfl | rfl | rfl | rfl | rfl | rfl | rfl | rfl | rfl | rfl | rfl | rfl | rfl | rfl | rfl
          · skip
            have hbi : b0 = false := by simpa using hun
            subst hbi
            have h16 : b16 = false := by
              cases b16 with
              | false => rfl
              | true => have := (f16 rfl).1; simp at this
            subst h16
            have Hsz := Lib.hid hsz
            have Hd := Lib.hid hd
            clear hsz hd
            refine wpOp_of rfl rfl ?_
            intro K' hK'
            go_simp
            refine hK' _ _ ?_
            show InvP _ _ _ _ _ _ _ _ _ _ (a.put (some 24) (.slice (some ⟨w.heap.size, 0, none⟩) 3 3)) (w.alloc (.cells pfoC 9))
            have tn := fun j (h : j ≠ 24) => Ts_ne a 24 j (.slice (some ⟨w.heap.size, 0, none⟩) 3 3) h
            have ts := Ts_self a 24 (.slice (some ⟨w.heap.size, 0, none⟩) 3 3) (by rw [Hsz.out]; decide)
            exact ⟨true, b2, b3, b4, b7, b8, b11, b12, b13, b14, b15, false, w.heap.size, g8, g15, by rfl, Hd.out, (ts_size _ _ _).trans Hsz.out, ⟨(tn 0 (by decide)).trans t0, (tn 1 (by decide)).trans t1, (tn 2 (by decide)).trans t2, (tn 3 (by decide)).trans t3, (tn 4 (by decide)).trans t4, (tn 5 (by decide)).trans t5, (tn 6 (by decide)).trans t6, (tn 7 (by decide)).trans t7, (tn 56 (by decide)).trans t56, (tn 25 (by decide)).trans t25, (tn 30 (by decide)).trans t30, (tn 34 (by decide)).trans t34⟩,
              fun _ => ⟨ts, fun _ => Blk.new w _ _⟩, fun h => (tn 26 (by decide)).trans (f2 h), fun h => absurd (f3 h).1.1 (by simp), fun h => ⟨(f4 h).1, (tn 28 (by decide)).trans (f4 h).2⟩, fun h => (tn 31 (by decide)).trans (f7 h), fun h => ⟨(tn 32 (by decide)).trans (f8 h).1, fun _ => ((f8 h).2 rfl).alloc _⟩, fun h => (tn 35 (by decide)).trans (f11 h), fun h => ⟨(f12 h).1, (tn 36 (by decide)).trans (f12 h).2⟩, fun h => ⟨(f13 h).1, (tn 37 (by decide)).trans (f13 h).2⟩, fun h => ⟨(f14 h).1, (tn 38 (by decide)).trans (f14 h).2⟩, fun h => ⟨(tn 8 (by decide)).trans (f15 h).1, (f15 h).2.1, fun _ => ((f15 h).2.2 rfl).alloc _⟩, fun h => (by cases h), hb.alloc hb.size _⟩
          · simp at hun
          · skip
            have hbi : b2 = false := by simpa using hun
            subst hbi
            have h16 : b16 = false := by
              cases b16 with
              | false => rfl
              | true => have := (f16 rfl).1; simp at this
            subst h16
            have e25 : (a.tmps[25]?).getD undef = .int .i64 z := t25
            have Hsz := Lib.hid hsz
            have Hd := Lib.hid hd
            clear hsz hd
            refine wpOp_of rfl rfl ?_
            intro K' hK'
            go_simp
            refine (picked_k z 3 w (by decide) (by decide)).mono ?_
            rintro e w1 ⟨rfl, hw1⟩
            obtain rfl : w = w1 := hw1.symm
            rw [Hp.out]
            refine hK' _ _ ?_
            show InvP _ _ _ _ _ _ _ _ _ _ (a.put (some 26) (.int .i64 (p : Int))) w
            have tn := fun j (h : j ≠ 26) => Ts_ne a 26 j (.int .i64 (p : Int)) h
            have ts := Ts_self a 26 (.int .i64 (p : Int)) (by rw [Hsz.out]; decide)
            exact ⟨b0, true, b3, b4, b7, b8, b11, b12, b13, b14, b15, false, g0, g8, g15, by rfl, Hd.out, (ts_size _ _ _).trans Hsz.out, ⟨(tn 0 (by decide)).trans t0, (tn 1 (by decide)).trans t1, (tn 2 (by decide)).trans t2, (tn 3 (by decide)).trans t3, (tn 4 (by decide)).trans t4, (tn 5 (by decide)).trans t5, (tn 6 (by decide)).trans t6, (tn 7 (by decide)).trans t7, (tn 56 (by decide)).trans t56, (tn 25 (by decide)).trans t25, (tn 30 (by decide)).trans t30, (tn 34 (by decide)).trans t34⟩,
              fun h => ⟨(tn 24 (by decide)).trans (f0 h).1, fun _ => ((f0 h).2 rfl)⟩, fun _ => ts, fun h => absurd (f3 h).1.2 (by simp), fun h => ⟨(f4 h).1, (tn 28 (by decide)).trans (f4 h).2⟩, fun h => (tn 31 (by decide)).trans (f7 h), fun h => ⟨(tn 32 (by decide)).trans (f8 h).1, fun _ => ((f8 h).2 rfl)⟩, fun h => (tn 35 (by decide)).trans (f11 h), fun h => ⟨(f12 h).1, (tn 36 (by decide)).trans (f12 h).2⟩, fun h => ⟨(f13 h).1, (tn 37 (by decide)).trans (f13 h).2⟩, fun h => ⟨(f14 h).1, (tn 38 (by decide)).trans (f14 h).2⟩, fun h => ⟨(tn 8 (by decide)).trans (f15 h).1, (f15 h).2.1, fun _ => ((f15 h).2.2 rfl)⟩, fun h => (by cases h), hb⟩
          · skip
            have hbi : b3 = false := by simpa using hun
            subst hbi
            obtain rfl := (Option.some.inj hoj).symm
            have d0 : b0 = true := by simpa using hall ⟨0, .data⟩ (by simp) (by rfl)
            have d2 : b2 = true := by simpa using hall ⟨2, .data⟩ (by simp) (by rfl)
            subst d0
            subst d2
            have h16 : b16 = false := by
              cases b16 with
              | false => rfl
              | true => have := (f16 rfl).1; simp at this
            subst h16
            have el : (a.tmps[24]?).getD undef = _ := (f0 rfl).1
            have ec : (a.tmps[26]?).getD undef = _ := f2 rfl
            have Hsz := Lib.hid hsz
            have Hd := Lib.hid hd
            clear hsz hd
            refine wpOp_of rfl rfl ?_
            intro K' hK'
            go_simp
            refine hK' _ _ ?_
            show InvP _ _ _ _ _ _ _ _ _ _ (a.put (some 27) (.pointer (some ⟨g0, p, none⟩))) w
            have tn := fun j (h : j ≠ 27) => Ts_ne a 27 j (.pointer (some ⟨g0, p, none⟩)) h
            have ts := Ts_self a 27 (.pointer (some ⟨g0, p, none⟩)) (by rw [Hsz.out]; decide)
            exact ⟨true, true, true, b4, b7, b8, b11, b12, b13, b14, b15, false, g0, g8, g15, by rfl, Hd.out, (ts_size _ _ _).trans Hsz.out, ⟨(tn 0 (by decide)).trans t0, (tn 1 (by decide)).trans t1, (tn 2 (by decide)).trans t2, (tn 3 (by decide)).trans t3, (tn 4 (by decide)).trans t4, (tn 5 (by decide)).trans t5, (tn 6 (by decide)).trans t6, (tn 7 (by decide)).trans t7, (tn 56 (by decide)).trans t56, (tn 25 (by decide)).trans t25, (tn 30 (by decide)).trans t30, (tn 34 (by decide)).trans t34⟩,
              fun h => ⟨(tn 24 (by decide)).trans (f0 h).1, fun _ => ((f0 h).2 rfl)⟩, fun h => (tn 26 (by decide)).trans (f2 h), fun _ => ⟨⟨rfl, rfl⟩, ts⟩, fun h => absurd (f4 h).1 (by simp), fun h => (tn 31 (by decide)).trans (f7 h), fun h => ⟨(tn 32 (by decide)).trans (f8 h).1, fun _ => ((f8 h).2 rfl)⟩, fun h => (tn 35 (by decide)).trans (f11 h), fun h => ⟨(f12 h).1, (tn 36 (by decide)).trans (f12 h).2⟩, fun h => ⟨(f13 h).1, (tn 37 (by decide)).trans (f13 h).2⟩, fun h => ⟨(f14 h).1, (tn 38 (by decide)).trans (f14 h).2⟩, fun h => ⟨(tn 8 (by decide)).trans (f15 h).1, (f15 h).2.1, fun _ => ((f15 h).2.2 rfl)⟩, fun h => (by cases h), hb⟩
          · skip
            have hbi : b4 = false := by simpa using hun
            subst hbi
            obtain rfl := (Option.some.inj hoj).symm
            have d3 : b3 = true := by simpa using hall ⟨3, .data⟩ (by simp) (by rfl)
            subst d3
            have h16 : b16 = false := by
              cases b16 with
              | false => rfl
              | true => have := (f16 rfl).1; simp at this
            subst h16
            have el : (a.tmps[27]?).getD undef = _ := (f3 rfl).2
            have ec := (((f0 (f3 rfl).1.1).2 rfl).cell p).trans (pfoC_at p hp2)
            have Hsz := Lib.hid hsz
            have Hd := Lib.hid hd
            clear hsz hd
            refine wpOp_of rfl rfl ?_
            intro K' hK'
            go_simp
            refine hK' _ _ ?_
            show InvP _ _ _ _ _ _ _ _ _ _ (a.put (some 28) (str (pfo p))) w
            have tn := fun j (h : j ≠ 28) => Ts_ne a 28 j (str (pfo p)) h
            have ts := Ts_self a 28 (str (pfo p)) (by rw [Hsz.out]; decide)
            exact ⟨b0, b2, true, true, b7, b8, b11, b12, b13, b14, b15, false, g0, g8, g15, by rfl, Hd.out, (ts_size _ _ _).trans Hsz.out, ⟨(tn 0 (by decide)).trans t0, (tn 1 (by decide)).trans t1, (tn 2 (by decide)).trans t2, (tn 3 (by decide)).trans t3, (tn 4 (by decide)).trans t4, (tn 5 (by decide)).trans t5, (tn 6 (by decide)).trans t6, (tn 7 (by decide)).trans t7, (tn 56 (by decide)).trans t56, (tn 25 (by decide)).trans t25, (tn 30 (by decide)).trans t30, (tn 34 (by decide)).trans t34⟩,
              fun h => ⟨(tn 24 (by decide)).trans (f0 h).1, fun _ => ((f0 h).2 rfl)⟩, fun h => (tn 26 (by decide)).trans (f2 h), fun h => ⟨(f3 h).1, (tn 27 (by decide)).trans (f3 h).2⟩, fun _ => ⟨rfl, ts⟩, fun h => (tn 31 (by decide)).trans (f7 h), fun h => ⟨(tn 32 (by decide)).trans (f8 h).1, fun _ => ((f8 h).2 rfl)⟩, fun h => (tn 35 (by decide)).trans (f11 h), fun h => ⟨(f12 h).1, (tn 36 (by decide)).trans (f12 h).2⟩, fun h => ⟨(f13 h).1, (tn 37 (by decide)).trans (f13 h).2⟩, fun h => absurd (f14 h).1.1 (by simp), fun h => ⟨(tn 8 (by decide)).trans (f15 h).1, (f15 h).2.1, fun _ => ((f15 h).2.2 rfl)⟩, fun h => (by cases h), hb⟩
          · simp at hun
          · simp at hun
          · skip
            have hbi : b7 = false := by simpa using hun
            subst hbi
            have h16 : b16 = false := by
              cases b16 with
              | false => rfl
              | true => have := (f16 rfl).1; simp at this
            subst h16
            have e30 : (a.tmps[30]?).getD undef = .int .i64 (z.tdiv 3) := t30
            have Hsz := Lib.hid hsz
            have Hd := Lib.hid hd
            clear hsz hd
            refine wpOp_of rfl rfl ?_
            intro K' hK'
            go_simp
            refine (picked_k (z.tdiv 3) 12 w (by decide) (by decide)).mono ?_
            rintro e w1 ⟨rfl, hw1⟩
            obtain rfl : w = w1 := hw1.symm
            rw [Hq.out]
            refine hK' _ _ ?_
            show InvP _ _ _ _ _ _ _ _ _ _ (a.put (some 31) (.int .i64 (q : Int))) w
            have tn := fun j (h : j ≠ 31) => Ts_ne a 31 j (.int .i64 (q : Int)) h
            have ts := Ts_self a 31 (.int .i64 (q : Int)) (by rw [Hsz.out]; decide)
            exact ⟨b0, b2, b3, b4, true, b8, b11, b12, b13, b14, b15, false, g0, g8, g15, by rfl, Hd.out, (ts_size _ _ _).trans Hsz.out, ⟨(tn 0 (by decide)).trans t0, (tn 1 (by decide)).trans t1, (tn 2 (by decide)).trans t2, (tn 3 (by decide)).trans t3, (tn 4 (by decide)).trans t4, (tn 5 (by decide)).trans t5, (tn 6 (by decide)).trans t6, (tn 7 (by decide)).trans t7, (tn 56 (by decide)).trans t56, (tn 25 (by decide)).trans t25, (tn 30 (by decide)).trans t30, (tn 34 (by decide)).trans t34⟩,
              fun h => ⟨(tn 24 (by decide)).trans (f0 h).1, fun _ => ((f0 h).2 rfl)⟩, fun h => (tn 26 (by decide)).trans (f2 h), fun h => ⟨(f3 h).1, (tn 27 (by decide)).trans (f3 h).2⟩, fun h => ⟨(f4 h).1, (tn 28 (by decide)).trans (f4 h).2⟩, fun _ => ts, fun h => ⟨(tn 32 (by decide)).trans (f8 h).1, fun _ => ((f8 h).2 rfl)⟩, fun h => (tn 35 (by decide)).trans (f11 h), fun h => ⟨(f12 h).1, (tn 36 (by decide)).trans (f12 h).2⟩, fun h => ⟨(f13 h).1, (tn 37 (by decide)).trans (f13 h).2⟩, fun h => absurd (f14 h).1.2.1 (by simp), fun h => ⟨(tn 8 (by decide)).trans (f15 h).1, (f15 h).2.1, fun _ => ((f15 h).2.2 rfl)⟩, fun h => (by cases h), hb⟩
          · skip
            have hbi : b8 = false := by simpa using hun
            subst hbi
            have h16 : b16 = false := by
              cases b16 with
              | false => rfl
              | true => have := (f16 rfl).1; simp at this
            subst h16
            have Hsz := Lib.hid hsz
            have Hd := Lib.hid hd
            clear hsz hd
            refine wpOp_of rfl rfl ?_
            intro K' hK'
            go_simp
            refine hK' _ _ ?_
            show InvP _ _ _ _ _ _ _ _ _ _ (a.put (some 32) (.slice (some ⟨w.heap.size, 0, none⟩) 3 3)) (w.alloc (.cells pboC 9))
            have tn := fun j (h : j ≠ 32) => Ts_ne a 32 j (.slice (some ⟨w.heap.size, 0, none⟩) 3 3) h
            have ts := Ts_self a 32 (.slice (some ⟨w.heap.size, 0, none⟩) 3 3) (by rw [Hsz.out]; decide)
            exact ⟨b0, b2, b3, b4, b7, true, b11, b12, b13, b14, b15, false, g0, w.heap.size, g15, by rfl, Hd.out, (ts_size _ _ _).trans Hsz.out, ⟨(tn 0 (by decide)).trans t0, (tn 1 (by decide)).trans t1, (tn 2 (by decide)).trans t2, (tn 3 (by decide)).trans t3, (tn 4 (by decide)).trans t4, (tn 5 (by decide)).trans t5, (tn 6 (by decide)).trans t6, (tn 7 (by decide)).trans t7, (tn 56 (by decide)).trans t56, (tn 25 (by decide)).trans t25, (tn 30 (by decide)).trans t30, (tn 34 (by decide)).trans t34⟩,
              fun h => ⟨(tn 24 (by decide)).trans (f0 h).1, fun _ => ((f0 h).2 rfl).alloc _⟩, fun h => (tn 26 (by decide)).trans (f2 h), fun h => ⟨(f3 h).1, (tn 27 (by decide)).trans (f3 h).2⟩, fun h => ⟨(f4 h).1, (tn 28 (by decide)).trans (f4 h).2⟩, fun h => (tn 31 (by decide)).trans (f7 h), fun _ => ⟨ts, fun _ => Blk.new w _ _⟩, fun h => (tn 35 (by decide)).trans (f11 h), fun h => absurd (f12 h).1.1 (by simp), fun h => ⟨(f13 h).1, (tn 37 (by decide)).trans (f13 h).2⟩, fun h => ⟨(f14 h).1, (tn 38 (by decide)).trans (f14 h).2⟩, fun h => ⟨(tn 8 (by decide)).trans (f15 h).1, (f15 h).2.1, fun _ => ((f15 h).2.2 rfl).alloc _⟩, fun h => (by cases h), hb.alloc hb.size _⟩
          · simp at hun
          · simp at hun
          · skip
            have hbi : b11 = false := by simpa using hun
            subst hbi
            have h16 : b16 = false := by
              cases b16 with
              | false => rfl
              | true => have := (f16 rfl).1; simp at this
            subst h16
            have e34 : (a.tmps[34]?).getD undef = .int .i64 (z.tdiv 36) := t34
            have Hsz := Lib.hid hsz
            have Hd := Lib.hid hd
            clear hsz hd
            refine wpOp_of rfl rfl ?_
            intro K' hK'
            go_simp
            refine (picked_k (z.tdiv 36) 3 w (by decide) (by decide)).mono ?_
            rintro e w1 ⟨rfl, hw1⟩
            obtain rfl : w = w1 := hw1.symm
            rw [Hr.out]
            refine hK' _ _ ?_
            show InvP _ _ _ _ _ _ _ _ _ _ (a.put (some 35) (.int .i64 (r : Int))) w
            have tn := fun j (h : j ≠ 35) => Ts_ne a 35 j (.int .i64 (r : Int)) h
            have ts := Ts_self a 35 (.int .i64 (r : Int)) (by rw [Hsz.out]; decide)
            exact ⟨b0, b2, b3, b4, b7, b8, true, b12, b13, b14, b15, false, g0, g8, g15, by rfl, Hd.out, (ts_size _ _ _).trans Hsz.out, ⟨(tn 0 (by decide)).trans t0, (tn 1 (by decide)).trans t1, (tn 2 (by decide)).trans t2, (tn 3 (by decide)).trans t3, (tn 4 (by decide)).trans t4, (tn 5 (by decide)).trans t5, (tn 6 (by decide)).trans t6, (tn 7 (by decide)).trans t7, (tn 56 (by decide)).trans t56, (tn 25 (by decide)).trans t25, (tn 30 (by decide)).trans t30, (tn 34 (by decide)).trans t34⟩,
              fun h => ⟨(tn 24 (by decide)).trans (f0 h).1, fun _ => ((f0 h).2 rfl)⟩, fun h => (tn 26 (by decide)).trans (f2 h), fun h => ⟨(f3 h).1, (tn 27 (by decide)).trans (f3 h).2⟩, fun h => ⟨(f4 h).1, (tn 28 (by decide)).trans (f4 h).2⟩, fun h => (tn 31 (by decide)).trans (f7 h), fun h => ⟨(tn 32 (by decide)).trans (f8 h).1, fun _ => ((f8 h).2 rfl)⟩, fun _ => ts, fun h => absurd (f12 h).1.2 (by simp), fun h => ⟨(f13 h).1, (tn 37 (by decide)).trans (f13 h).2⟩, fun h => ⟨(f14 h).1, (tn 38 (by decide)).trans (f14 h).2⟩, fun h => ⟨(tn 8 (by decide)).trans (f15 h).1, (f15 h).2.1, fun _ => ((f15 h).2.2 rfl)⟩, fun h => (by cases h), hb⟩
          · skip
            have hbi : b12 = false := by simpa using hun
            subst hbi
            obtain rfl := (Option.some.inj hoj).symm
            have d8 : b8 = true := by simpa using hall ⟨8, .data⟩ (by simp) (by rfl)
            have d11 : b11 = true := by simpa using hall ⟨11, .data⟩ (by simp) (by rfl)
            subst d8
            subst d11
            have h16 : b16 = false := by
              cases b16 with
              | false => rfl
              | true => have := (f16 rfl).1; simp at this
            subst h16
            have el : (a.tmps[32]?).getD undef = _ := (f8 rfl).1
            have ec : (a.tmps[35]?).getD undef = _ := f11 rfl
            have Hsz := Lib.hid hsz
            have Hd := Lib.hid hd
            clear hsz hd
            refine wpOp_of rfl rfl ?_
            intro K' hK'
            go_simp
            refine hK' _ _ ?_
            show InvP _ _ _ _ _ _ _ _ _ _ (a.put (some 36) (.pointer (some ⟨g8, r, none⟩))) w
            have tn := fun j (h : j ≠ 36) => Ts_ne a 36 j (.pointer (some ⟨g8, r, none⟩)) h
            have ts := Ts_self a 36 (.pointer (some ⟨g8, r, none⟩)) (by rw [Hsz.out]; decide)
            exact ⟨b0, b2, b3, b4, b7, true, true, true, b13, b14, b15, false, g0, g8, g15, by rfl, Hd.out, (ts_size _ _ _).trans Hsz.out, ⟨(tn 0 (by decide)).trans t0, (tn 1 (by decide)).trans t1, (tn 2 (by decide)).trans t2, (tn 3 (by decide)).trans t3, (tn 4 (by decide)).trans t4, (tn 5 (by decide)).trans t5, (tn 6 (by decide)).trans t6, (tn 7 (by decide)).trans t7, (tn 56 (by decide)).trans t56, (tn 25 (by decide)).trans t25, (tn 30 (by decide)).trans t30, (tn 34 (by decide)).trans t34⟩,
              fun h => ⟨(tn 24 (by decide)).trans (f0 h).1, fun _ => ((f0 h).2 rfl)⟩, fun h => (tn 26 (by decide)).trans (f2 h), fun h => ⟨(f3 h).1, (tn 27 (by decide)).trans (f3 h).2⟩, fun h => ⟨(f4 h).1, (tn 28 (by decide)).trans (f4 h).2⟩, fun h => (tn 31 (by decide)).trans (f7 h), fun h => ⟨(tn 32 (by decide)).trans (f8 h).1, fun _ => ((f8 h).2 rfl)⟩, fun h => (tn 35 (by decide)).trans (f11 h), fun _ => ⟨⟨rfl, rfl⟩, ts⟩, fun h => absurd (f13 h).1 (by simp), fun h => ⟨(f14 h).1, (tn 38 (by decide)).trans (f14 h).2⟩, fun h => ⟨(tn 8 (by decide)).trans (f15 h).1, (f15 h).2.1, fun _ => ((f15 h).2.2 rfl)⟩, fun h => (by cases h), hb⟩
          · skip
            have hbi : b13 = false := by simpa using hun
            subst hbi
            obtain rfl := (Option.some.inj hoj).symm
            have d12 : b12 = true := by simpa using hall ⟨12, .data⟩ (by simp) (by rfl)
            subst d12
            have h16 : b16 = false := by
              cases b16 with
              | false => rfl
              | true => have := (f16 rfl).1; simp at this
            subst h16
            have el : (a.tmps[36]?).getD undef = _ := (f12 rfl).2
            have ec := (((f8 (f12 rfl).1.1).2 rfl).cell r).trans (pboC_at r hr3)
            have Hsz := Lib.hid hsz
            have Hd := Lib.hid hd
            clear hsz hd
            refine wpOp_of rfl rfl ?_
            intro K' hK'
            go_simp
            refine hK' _ _ ?_
            show InvP _ _ _ _ _ _ _ _ _ _ (a.put (some 37) (str (pbo r))) w
            have tn := fun j (h : j ≠ 37) => Ts_ne a 37 j (str (pbo r)) h
            have ts := Ts_self a 37 (str (pbo r)) (by rw [Hsz.out]; decide)
            exact ⟨b0, b2, b3, b4, b7, b8, b11, true, true, b14, b15, false, g0, g8, g15, by rfl, Hd.out, (ts_size _ _ _).trans Hsz.out, ⟨(tn 0 (by decide)).trans t0, (tn 1 (by decide)).trans t1, (tn 2 (by decide)).trans t2, (tn 3 (by decide)).trans t3, (tn 4 (by decide)).trans t4, (tn 5 (by decide)).trans t5, (tn 6 (by decide)).trans t6, (tn 7 (by decide)).trans t7, (tn 56 (by decide)).trans t56, (tn 25 (by decide)).trans t25, (tn 30 (by decide)).trans t30, (tn 34 (by decide)).trans t34⟩,
              fun h => ⟨(tn 24 (by decide)).trans (f0 h).1, fun _ => ((f0 h).2 rfl)⟩, fun h => (tn 26 (by decide)).trans (f2 h), fun h => ⟨(f3 h).1, (tn 27 (by decide)).trans (f3 h).2⟩, fun h => ⟨(f4 h).1, (tn 28 (by decide)).trans (f4 h).2⟩, fun h => (tn 31 (by decide)).trans (f7 h), fun h => ⟨(tn 32 (by decide)).trans (f8 h).1, fun _ => ((f8 h).2 rfl)⟩, fun h => (tn 35 (by decide)).trans (f11 h), fun h => ⟨(f12 h).1, (tn 36 (by decide)).trans (f12 h).2⟩, fun _ => ⟨rfl, ts⟩, fun h => absurd (f14 h).1.2.2 (by simp), fun h => ⟨(tn 8 (by decide)).trans (f15 h).1, (f15 h).2.1, fun _ => ((f15 h).2.2 rfl)⟩, fun h => (by cases h), hb⟩
          · skip
            have hbi : b14 = false := by simpa using hun
            subst hbi
            obtain rfl := (Option.some.inj hoj).symm
            have d4 : b4 = true := by simpa using hall ⟨4, .data⟩ (by simp) (by rfl)
            have d7 : b7 = true := by simpa using hall ⟨7, .data⟩ (by simp) (by rfl)
            have d13 : b13 = true := by simpa using hall ⟨13, .data⟩ (by simp) (by rfl)
            subst d4
            subst d7
            subst d13
            have h16 : b16 = false := by
              cases b16 with
              | false => rfl
              | true => have := (f16 rfl).1; simp at this
            subst h16
            have e4 : (a.tmps[28]?).getD undef = _ := (f4 rfl).2
            have e7 : (a.tmps[31]?).getD undef = _ := f7 rfl
            have e13 : (a.tmps[37]?).getD undef = _ := (f13 rfl).2
            have Hsz := Lib.hid hsz
            have Hd := Lib.hid hd
            clear hsz hd
            refine wpOp_of rfl rfl ?_
            intro K' hK'
            go_simp
            refine hK' _ _ ?_
            show InvP _ _ _ _ _ _ _ _ _ _ (a.put (some 38) (.agg #[.int .i64 1, str (pfo p), .int .i64 (q : Int), str (pbo r), .int .i64 0])) w
            have tn := fun j (h : j ≠ 38) => Ts_ne a 38 j (.agg #[.int .i64 1, str (pfo p), .int .i64 (q : Int), str (pbo r), .int .i64 0]) h
            have ts := Ts_self a 38 (.agg #[.int .i64 1, str (pfo p), .int .i64 (q : Int), str (pbo r), .int .i64 0]) (by rw [Hsz.out]; decide)
            exact ⟨b0, b2, b3, true, true, b8, b11, b12, true, true, b15, false, g0, g8, g15, by rfl, Hd.out, (ts_size _ _ _).trans Hsz.out, ⟨(tn 0 (by decide)).trans t0, (tn 1 (by decide)).trans t1, (tn 2 (by decide)).trans t2, (tn 3 (by decide)).trans t3, (tn 4 (by decide)).trans t4, (tn 5 (by decide)).trans t5, (tn 6 (by decide)).trans t6, (tn 7 (by decide)).trans t7, (tn 56 (by decide)).trans t56, (tn 25 (by decide)).trans t25, (tn 30 (by decide)).trans t30, (tn 34 (by decide)).trans t34⟩,
              fun h => ⟨(tn 24 (by decide)).trans (f0 h).1, fun _ => ((f0 h).2 rfl)⟩, fun h => (tn 26 (by decide)).trans (f2 h), fun h => ⟨(f3 h).1, (tn 27 (by decide)).trans (f3 h).2⟩, fun h => ⟨(f4 h).1, (tn 28 (by decide)).trans (f4 h).2⟩, fun h => (tn 31 (by decide)).trans (f7 h), fun h => ⟨(tn 32 (by decide)).trans (f8 h).1, fun _ => ((f8 h).2 rfl)⟩, fun h => (tn 35 (by decide)).trans (f11 h), fun h => ⟨(f12 h).1, (tn 36 (by decide)).trans (f12 h).2⟩, fun h => ⟨(f13 h).1, (tn 37 (by decide)).trans (f13 h).2⟩, fun _ => ⟨⟨rfl, rfl, rfl⟩, ts⟩, fun h => ⟨(tn 8 (by decide)).trans (f15 h).1, (f15 h).2.1, fun _ => ((f15 h).2.2 rfl)⟩, fun h => (by cases h), hb⟩
          · skip
            have hbi : b15 = false := by simpa using hun
            subst hbi
            have h16 : b16 = false := by
              cases b16 with
              | false => rfl
              | true => have := (f16 rfl).1; simp at this
            subst h16
            have Hsz := Lib.hid hsz
            have Hd := Lib.hid hd
            clear hsz hd
            refine wpOp_of rfl rfl ?_
            intro K' hK'
            go_simp
            refine hK' _ _ ?_
            show InvP _ _ _ _ _ _ _ _ _ _ (a.put (some 8) (.pointer (some ⟨w.heap.size, 0, none⟩))) (w.alloc (.cells #[.int .i64 0, .string ⟨#[]⟩, .int .i64 0, .string ⟨#[]⟩, .int .i64 0] 76))
            have tn := fun j (h : j ≠ 8) => Ts_ne a 8 j (.pointer (some ⟨w.heap.size, 0, none⟩)) h
            have ts := Ts_self a 8 (.pointer (some ⟨w.heap.size, 0, none⟩)) (by rw [Hsz.out]; decide)
            exact ⟨b0, b2, b3, b4, b7, b8, b11, b12, b13, b14, true, false, g0, g8, w.heap.size, by rfl, Hd.out, (ts_size _ _ _).trans Hsz.out, ⟨(tn 0 (by decide)).trans t0, (tn 1 (by decide)).trans t1, (tn 2 (by decide)).trans t2, (tn 3 (by decide)).trans t3, (tn 4 (by decide)).trans t4, (tn 5 (by decide)).trans t5, (tn 6 (by decide)).trans t6, (tn 7 (by decide)).trans t7, (tn 56 (by decide)).trans t56, (tn 25 (by decide)).trans t25, (tn 30 (by decide)).trans t30, (tn 34 (by decide)).trans t34⟩,
              fun h => ⟨(tn 24 (by decide)).trans (f0 h).1, fun _ => ((f0 h).2 rfl).alloc _⟩, fun h => (tn 26 (by decide)).trans (f2 h), fun h => ⟨(f3 h).1, (tn 27 (by decide)).trans (f3 h).2⟩, fun h => ⟨(f4 h).1, (tn 28 (by decide)).trans (f4 h).2⟩, fun h => (tn 31 (by decide)).trans (f7 h), fun h => ⟨(tn 32 (by decide)).trans (f8 h).1, fun _ => ((f8 h).2 rfl).alloc _⟩, fun h => (tn 35 (by decide)).trans (f11 h), fun h => ⟨(f12 h).1, (tn 36 (by decide)).trans (f12 h).2⟩, fun h => ⟨(f13 h).1, (tn 37 (by decide)).trans (f13 h).2⟩, fun h => ⟨(f14 h).1, (tn 38 (by decide)).trans (f14 h).2⟩, fun _ => ⟨ts, hb.size, fun _ => Blk.new w _ _⟩, fun h => (by cases h), hb.alloc hb.size _⟩
          · skip
            have hbi : b16 = false := by simpa using hun
            subst hbi
            obtain rfl := (Option.some.inj hoj).symm
            have dx : b15 = true := by simpa using hall ⟨15, .data⟩ (by simp) (by rfl)
            have db : b14 = true := by simpa using hall ⟨14, .data⟩ (by simp) (by rfl)
            subst dx db
            obtain ⟨⟨e4, e7, e13⟩, ub⟩ := f14 rfl
            subst e4
            subst e7
            subst e13
            have e3 := (f4 rfl).1
            subst e3
            obtain ⟨⟨e0, e2⟩, u3⟩ := f3 rfl
            subst e0 e2
            have e12 := (f13 rfl).1
            subst e12
            obtain ⟨⟨e8, e11⟩, u12⟩ := f12 rfl
            subst e8 e11
            obtain ⟨ux, hgx, hB⟩ := f15 rfl
            replace hB := hB rfl
            have eb : (a.tmps[38]?).getD undef = _ := ub
            have ex : (a.tmps[8]?).getD undef = _ := ux
            have c0 := hB.cell 0
            have r0 := hB.frozen 0
            have c1 := hB.cell 1
            have r1 := hB.frozen 1
            have c2 := hB.cell 2
            have r2 := hB.frozen 2
            have c3 := hB.cell 3
            have r3 := hB.frozen 3
            have c4 := hB.cell 4
            have r4 := hB.frozen 4
            have hB2 : Blk (((((w.setCell ⟨g15, 0, none⟩ (.int .i64 1)).setCell ⟨g15, 1, none⟩ (str (pfo p))).setCell ⟨g15, 2, none⟩ (.int .i64 (q : Int))).setCell ⟨g15, 3, none⟩ (str (pbo r))).setCell ⟨g15, 4, none⟩ (.int .i64 0)) g15 76 #[.int .i64 1, str (pfo p), .int .i64 (q : Int), str (pbo r), .int .i64 0] := (((((hB.set_ 0 _).set_ 1 _).set_ 2 _).set_ 3 _).set_ 4 _)
            have Hsz := Lib.hid hsz
            have Hd := Lib.hid hd
            clear hsz hd
            refine wpOp_of rfl rfl ?_
            intro K' hK'
            simp at c0 c1 c2 c3 c4
            go_simp
            refine hK' _ _ ?_
            show InvP _ _ _ _ _ _ _ _ _ _ a (((((w.setCell ⟨g15, 0, none⟩ (.int .i64 1)).setCell ⟨g15, 1, none⟩ (str (pfo p))).setCell ⟨g15, 2, none⟩ (.int .i64 (q : Int))).setCell ⟨g15, 3, none⟩ (str (pbo r))).setCell ⟨g15, 4, none⟩ (.int .i64 0))
            exact ⟨true, true, true, true, true, true, true, true, true, true, true, true, g0, g8, g15, by rfl, Hd.out, Hsz.out, ⟨t0, t1, t2, t3, t4, t5, t6, t7, t56, t25, t30, t34⟩, fun _ => ⟨(f0 rfl).1, fun h => (by cases h)⟩, f2, f3, f4, f7, fun _ => ⟨(f8 rfl).1, fun h => (by cases h)⟩, f11, f12, f13, f14, fun _ => ⟨ux, hgx, fun h => (by cases h)⟩, fun _ => ⟨rfl, hB2⟩, (((((hb.setCell hgx _).setCell hgx _).setCell hgx _).setCell hgx _).setCell hgx _)⟩
        · exact ⟨false, false, false, false, false, false, false, false, false, false, false, false, 0, 0, 0, by kernel_rfl, by kernel_rfl, by kernel_rfl, ⟨by kernel_rfl, by kernel_rfl, by kernel_rfl, by kernel_rfl, by kernel_rfl, by kernel_rfl, by kernel_rfl, by kernel_rfl, by kernel_rfl, by kernel_rfl, by kernel_rfl, by kernel_rfl⟩, by simp, by simp, by simp, by simp, by simp, by simp, by simp, by simp, by simp, by simp, by simp, by simp, hS0⟩
        · exact Nat.le_of_eq (by kernel_rfl)
      · have hi1 : (k : Int) < (n : Int) := by omega
        have hi2 : ¬ (k : Int) < (lim : Int) := by omega
        go_wp2_with fail
        go_ret
        exact ⟨_, rfl, l, by rw [Hcl.out]; exact Ho.out, by rw [Hcl.out]; omega, Hdr.out, Hbe.out⟩
    · have hi1 : ¬ (k : Int) < (n : Int) := by omega
      go_wp2_with fail
      go_ret
      exact ⟨_, rfl, l, by rw [Hcl.out]; exact Ho.out, by rw [Hcl.out]; omega, Hdr.out, Hbe.out⟩
end Go.Proofs.Ytmlgaedhfannmaa
