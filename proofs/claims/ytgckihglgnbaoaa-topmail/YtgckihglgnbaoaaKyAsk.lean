/- One-time keys: Asks at every slice of numbers. -/
import Derived.Test.YtgckihglgnbaoaaKyAskI
import Derived.Test.YtgckihglgnbaoaaKyPl
import Derived.Test.YtgckihglgnbaoaaInts
namespace Go.Proofs.Ytgckihglgnbaoaa
set_option linter.unusedVariables false
set_option linter.unusedSimpArgs false
open Go.RowKit
/-- An ask that is drawn. -/
def OkA (a : Ak) : Prop := (a.sort = [101, 100] ∨ a.sort = [99, 117]) ∧ ((a.kind = 1 ∨ a.kind = 2) ∧ (∃ q, q < 7 ∧ a.id = io q) ∧ (∃ r, r < 3 ∧ a.body = bo r) ∧ a.by_ = 0 ∨ a.kind = 3 ∧ a.id = [] ∧ a.body = [] ∧ 1 ≤ a.by_ ∧ a.by_ ≤ 9 ∨ a.kind = 4 ∧ a.id = [] ∧ a.body = [] ∧ a.by_ = 0)
theorem okA_key (kd : Int) (S I B : List UInt8) (hk : kd = 1 ∨ kd = 2) (hS : S = [101, 100] ∨ S = [99, 117]) (hI : ∃ q, q < 7 ∧ I = io q) (hB : ∃ r, r < 3 ∧ B = bo r) : OkA ⟨kd, S, I, B, 0⟩ := ⟨hS, .inl ⟨hk, hI, hB, rfl⟩⟩
theorem okA_claim (S : List UInt8) (c : Nat) (hc : c < 9) (hS : S = [101, 100] ∨ S = [99, 117]) : OkA ⟨3, S, [], [], (c : Int) + 1⟩ := ⟨hS, .inr (.inl ⟨rfl, rfl, rfl, show 1 ≤ (c : Int) + 1 by omega, show (c : Int) + 1 ≤ 9 by omega⟩)⟩
theorem okA_count (S : List UInt8) (hS : S = [101, 100] ∨ S = [99, 117]) : OkA ⟨4, S, [], [], 0⟩ := ⟨hS, .inr (.inr ⟨rfl, rfl, rfl, rfl⟩)⟩
def AskR (n lim : Nat) (w : World) (gk : Nat) (s5 s6 : Value) (wr : World) : Prop :=
  ∃ (k : Nat) (l : List Ak), s6 = .int .i64 (k : Int) ∧ k ≤ lim ∧ k ≤ n ∧ gk = lim - k ∧ l.length = k ∧ (∀ a ∈ l, OkA a) ∧ wr.ownsRow w.heap.size 55 5 s5 k (pcK akL l) ∧ Below w.heap.size w wr
set_option maxHeartbeats 8000000 in
set_option maxRecDepth 100000 in
theorem asks_any (A : Option Addr) (n c B lim : Nat) (w : World) (hx : IntsAt w B A n c) (hB : B ≤ w.heap.size) (hlim : lim ≤ 100) :
    Calls Try.prog 19 #[.slice A n c, .int .i64 (lim : Int)] w fun e w' => ∃ v l, e = .returned v ∧ w'.ownsRow w.heap.size 55 5 v l.length (pcK akL l) ∧ l.length = min n lim ∧ (∀ a ∈ l, OkA a) ∧ Below w.heap.size w w' := by
  have Hx := Lib.hid hx
  clear hx
  go_enter Try.func19, Try.ntmps19
  go_wp2_with fail
  go_loopg [5, 6] lim (AskR n lim w)
  case atStart => exact ⟨0, [], rfl, Nat.zero_le _, Nat.zero_le _, by omega, rfl, by simp, World.ownsRow_nil _ _ _ _, Below.refl _ _⟩
  case round =>
    obtain ⟨k, l, rfl, hk, hkn', hgk, hcl, hdr, ho, hbe⟩ := hrel
    have Hgk := Lib.hid hgk
    have Ho := Lib.hid ho
    have Hbe := Lib.hid hbe
    have Hcl := Lib.hid hcl
    have Hdr := Lib.hid hdr
    have hszw := hbe.size
    clear hgk ho hbe hcl hdr
    by_cases hkn : k < n
    · by_cases hkl : k < lim
      · have hi1 : (k : Int) < (n : Int) := by omega
        have hi2 : (k : Int) < (lim : Int) := by omega
        obtain ⟨b, off, z, hA, hbB, hc0, hz1, hz2⟩ := (Hx.out.below (Hbe.out.mono hB)).at hkn
        subst hA
        have hbw : b < wr.heap.size := by omega
        obtain ⟨p, hp, hp2⟩ := pick_nat z 2 (by decide)
        obtain ⟨q, hq, hq7⟩ := pick_nat (z.tdiv 2) 7 (by decide)
        obtain ⟨r, hr, hr3⟩ := pick_nat (z.tdiv 14) 3 (by decide)
        obtain ⟨c8, hc8, hc88⟩ := pick_nat (z.tdiv 42) 8 (by decide)
        obtain ⟨c9, hc9, hc99⟩ := pick_nat (z.tdiv 336) 9 (by decide)
        have Hp : Hid (z % 2 = (p : Int)) := Lib.hid hp
        have Hq : Hid ((z.tdiv 2) % 7 = (q : Int)) := Lib.hid hq
        have Hr : Hid ((z.tdiv 14) % 3 = (r : Int)) := Lib.hid hr
        have Hc8 : Hid ((z.tdiv 42) % 8 = (c8 : Int)) := Lib.hid hc8
        have Hc9 : Hid ((z.tdiv 336) % 9 = (c9 : Int)) := Lib.hid hc9
        have hpi : (p : Int) < 2 := by omega
        have hqi : (q : Int) < 7 := by omega
        have hri : (r : Int) < 3 := by omega
        have hw2 := quo_in z 2 hz1 hz2 (by decide)
        have hw14 := quo_in z 14 hz1 hz2 (by decide)
        have hw42 := quo_in z 42 hz1 hz2 (by decide)
        have hw336 := quo_in z 336 hz1 hz2 (by decide)
        clear hp hq hr hc8 hc9
        go_wp2_with fail
        refine region_S (fun w' => Below wr.heap.size wr w') [] (by kernel_rfl) ?_
        have hS0 : Below wr.heap.size wr wr.drew := (Below.refl _ _).drew
        refine anyS_take 1 (v := .int .i64 z) rfl (by kernel_rfl) (by kernel_rfl) (by kernel_rfl) (by kernel_rfl) (fun _ _ _ h => h) (.inl ⟨by kernel_rfl, fun w' hS' => by kernel_rfl⟩) hS0 ?_
        refine anyS_take 6 (v := .int .i64 z) rfl (by kernel_rfl) (by kernel_rfl) (by kernel_rfl) (by kernel_rfl) (fun _ _ _ h => h) (.inl ⟨by kernel_rfl, fun w' hS' => by kernel_rfl⟩) hS0 ?_
        refine anyS_take 7 (v := .int .i64 (z.tdiv 2)) rfl (by kernel_rfl) (by kernel_rfl) (by kernel_rfl) (by kernel_rfl) (fun _ _ _ h => h) (.inl ⟨by kernel_rfl, fun w' hS' => by go_simp⟩) hS0 ?_
        refine anyS_take 12 (v := .int .i64 z) rfl (by kernel_rfl) (by kernel_rfl) (by kernel_rfl) (by kernel_rfl) (fun _ _ _ h => h) (.inl ⟨by kernel_rfl, fun w' hS' => by kernel_rfl⟩) hS0 ?_
        refine anyS_take 13 (v := .int .i64 (z.tdiv 14)) rfl (by kernel_rfl) (by kernel_rfl) (by kernel_rfl) (by kernel_rfl) (fun _ _ _ h => h) (.inl ⟨by kernel_rfl, fun w' hS' => by go_simp⟩) hS0 ?_
        refine anyS_inv (I := InvA (.slice (some ⟨b, off, none⟩) n c) (.int .i64 (lim : Int)) u5 (.int .i64 (k : Int)) z p q r wr) ?_ ?_ ?_ _ _ _ _ ?_ ?_
        · rintro l a w ⟨b0, b2, b3, b4, b5, b8, b9, b10, b11, b14, b15, b16, b17, b18, b19, g0, g5, g11, g18, rfl, hd, hsz, ⟨t0, t1, t2, t3, t4, t5, t6, t7, t67, t25, t31, t37⟩, f0, f2, f3, f4, f5, f8, f9, f10, f11, f14, f15, f16, f17, f18, f19, hb⟩
          exact hb
        · rintro l' a w5 ⟨b0, b2, b3, b4, b5, b8, b9, b10, b11, b14, b15, b16, b17, b18, b19, g0, g5, g11, g18, rfl, hd, hsz, ⟨t0, t1, t2, t3, t4, t5, t6, t7, t67, t25, t31, t37⟩, f0, f2, f3, f4, f5, f8, f9, f10, f11, f14, f15, f16, f17, f18, f19, hb⟩ hr
          have q0 : b0 = true := by
            cases b0 with
            | true => rfl
            | false =>
              have hc := congrArg (fun r : List Nat => r.contains 0) hr
              have ht : true = false := Eq.trans (by kernel_rfl) hc
              cases ht
          subst q0
          have q2 : b2 = true := by
            cases b2 with
            | true => rfl
            | false =>
              have hc := congrArg (fun r : List Nat => r.contains 2) hr
              have ht : true = false := Eq.trans (by kernel_rfl) hc
              cases ht
          subst q2
          have q3 : b3 = true := by
            cases b3 with
            | true => rfl
            | false =>
              have hc := congrArg (fun r : List Nat => r.contains 3) hr
              have ht : true = false := Eq.trans (by kernel_rfl) hc
              cases ht
          subst q3
          have q4 : b4 = true := by
            cases b4 with
            | true => rfl
            | false =>
              have hc := congrArg (fun r : List Nat => r.contains 4) hr
              have ht : true = false := Eq.trans (by kernel_rfl) hc
              cases ht
          subst q4
          have q5 : b5 = true := by
            cases b5 with
            | true => rfl
            | false =>
              have hc := congrArg (fun r : List Nat => r.contains 5) hr
              have ht : true = false := Eq.trans (by kernel_rfl) hc
              cases ht
          subst q5
          have q8 : b8 = true := by
            cases b8 with
            | true => rfl
            | false =>
              have hc := congrArg (fun r : List Nat => r.contains 8) hr
              have ht : true = false := Eq.trans (by kernel_rfl) hc
              cases ht
          subst q8
          have q9 : b9 = true := by
            cases b9 with
            | true => rfl
            | false =>
              have hc := congrArg (fun r : List Nat => r.contains 9) hr
              have ht : true = false := Eq.trans (by kernel_rfl) hc
              cases ht
          subst q9
          have q10 : b10 = true := by
            cases b10 with
            | true => rfl
            | false =>
              have hc := congrArg (fun r : List Nat => r.contains 10) hr
              have ht : true = false := Eq.trans (by kernel_rfl) hc
              cases ht
          subst q10
          have q11 : b11 = true := by
            cases b11 with
            | true => rfl
            | false =>
              have hc := congrArg (fun r : List Nat => r.contains 11) hr
              have ht : true = false := Eq.trans (by kernel_rfl) hc
              cases ht
          subst q11
          have q14 : b14 = true := by
            cases b14 with
            | true => rfl
            | false =>
              have hc := congrArg (fun r : List Nat => r.contains 14) hr
              have ht : true = false := Eq.trans (by kernel_rfl) hc
              cases ht
          subst q14
          have q15 : b15 = true := by
            cases b15 with
            | true => rfl
            | false =>
              have hc := congrArg (fun r : List Nat => r.contains 15) hr
              have ht : true = false := Eq.trans (by kernel_rfl) hc
              cases ht
          subst q15
          have q16 : b16 = true := by
            cases b16 with
            | true => rfl
            | false =>
              have hc := congrArg (fun r : List Nat => r.contains 16) hr
              have ht : true = false := Eq.trans (by kernel_rfl) hc
              cases ht
          subst q16
          have q17 : b17 = true := by
            cases b17 with
            | true => rfl
            | false =>
              have hc := congrArg (fun r : List Nat => r.contains 17) hr
              have ht : true = false := Eq.trans (by kernel_rfl) hc
              cases ht
          subst q17
          have q18 : b18 = true := by
            cases b18 with
            | true => rfl
            | false =>
              have hc := congrArg (fun r : List Nat => r.contains 18) hr
              have ht : true = false := Eq.trans (by kernel_rfl) hc
              cases ht
          subst q18
          have q19 : b19 = true := by
            cases b19 with
            | true => rfl
            | false =>
              have hc := congrArg (fun r : List Nat => r.contains 19) hr
              have ht : true = false := Eq.trans (by kernel_rfl) hc
              cases ht
          subst q19
          obtain ⟨ux, hgx, -⟩ := f18 rfl
          obtain ⟨-, hB⟩ := f19 rfl
          obtain ⟨x0, x1, x2, x3, x4, x5, x6, x7, x8, x9, x10, x11, x12, x13, x14, x15, x16, x17, x18, x19, x20, x21, x22, x23, x24, x25, x26, x27, x28, x29, x30, x31, x32, x33, x34, x35, x36, x37, x38, x39, x40, x41, x42, x43, x44, x45, x46, x47, x48, x49, x50, x51, x52, x53, x54, x55, x56, x57, x58, x59, x60, x61, x62, x63, x64, x65, x66, x67, ht⟩ := tmps68 hsz
          obtain ⟨tm, df⟩ := a
          replace ht : tm = _ := ht
          replace hd : df = [] := hd
          subst ht hd
          replace t0 : x0 = _ := t0
          replace t1 : x1 = _ := t1
          replace t2 : x2 = _ := t2
          replace t3 : x3 = _ := t3
          replace t4 : x4 = _ := t4
          replace t5 : x5 = _ := t5
          replace t6 : x6 = _ := t6
          replace t7 : x7 = _ := t7
          replace t67 : x67 = _ := t67
          replace t25 : x25 = _ := t25
          replace t31 : x31 = _ := t31
          replace t37 : x37 = _ := t37
          replace ux : x8 = _ := ux
          subst t0 t1 t2 t3 t4 t6 t7 t67 ux
          subst x5
          have c0 : w5.cell? ⟨g18, 0, none⟩ = some (.int .i64 1) := hB.cell 0
          have c1 : w5.cell? ⟨g18, 1, none⟩ = some (str (so p)) := hB.cell 1
          have c2 : w5.cell? ⟨g18, 2, none⟩ = some (str (io q)) := hB.cell 2
          have c3 : w5.cell? ⟨g18, 3, none⟩ = some (str (bo r)) := hB.cell 3
          have c4 : w5.cell? ⟨g18, 4, none⟩ = some (.int .i64 0) := hB.cell 4
          have r0 := hB.frozen 0
          have r1 := hB.frozen 1
          have r2 := hB.frozen 2
          have r3 := hB.frozen 3
          have r4 := hB.frozen 4
          have hgl := hB.lt
          have HB := Lib.hid hB
          have Hb := Lib.hid hb
          have hSo : so p = [101, 100] ∨ so p = [99, 117] := by
            rcases (by omega : p = 0 ∨ p = 1) with rfl | rfl
            · exact .inl rfl
            · exact .inr rfl
          have HSo := Lib.hid hSo
          have Hio := Lib.hid (show ∃ q', q' < 7 ∧ io q = io q' from ⟨q, hq7, rfl⟩)
          have Hbo := Lib.hid (show ∃ r', r' < 3 ∧ bo r = bo r' from ⟨r, hr3, rfl⟩)
          clear hB hb hSo f0 f2 f3 f4 f5 f8 f9 f10 f11 f14 f15 f16 f17 f18 f19 hsz t25 t31 t37 hr hS0
          generalize so p = sop at *
          generalize io q = ioq at *
          generalize bo r = bor at *
          go_wp2_with fail
          refine (picked_k (z.tdiv 42) 8 _ (by decide) (by decide)).mono ?_
          rintro e w6 ⟨rfl, hw6⟩
          subst hw6
          rw [Hc8.out]
          by_cases x4 : c8 = 4
          · subst x4
            have Hb6 : Hid (Below wr.heap.size wr (w6.setCell ⟨g18, 0, none⟩ (.int .i64 2))) := Lib.hid (Hb.out.setCell hgx _)
            have hB6 : Blk (w6.setCell ⟨g18, 0, none⟩ (.int .i64 2)) g18 55 #[.int .i64 2, str sop, str ioq, str bor, .int .i64 0] := HB.out.set_ 0 _
            obtain ⟨W6, hW6⟩ : ∃ W6, w6.setCell ⟨g18, 0, none⟩ (.int .i64 2) = W6 := ⟨_, rfl⟩
            rw [hW6] at Hb6 hB6
            have d0 : W6.cell? ⟨g18, 0, none⟩ = some (.int .i64 2) := hB6.cell 0
            have d1 : W6.cell? ⟨g18, 1, none⟩ = some (str sop) := hB6.cell 1
            have d2 : W6.cell? ⟨g18, 2, none⟩ = some (str ioq) := hB6.cell 2
            have d3 : W6.cell? ⟨g18, 3, none⟩ = some (str bor) := hB6.cell 3
            have d4 : W6.cell? ⟨g18, 4, none⟩ = some (.int .i64 0) := hB6.cell 4
            have hgl6 := hB6.lt
            have how := own_below Ho.out Hb6.out
            have hsz6 := Hb6.out.size
            obtain ⟨v', wf, hrun, ho', hg', -⟩ := run_app_el (P := Try.prog) (enc := akL) akL_len akL_one (by omega) Try.underlying22 info_ask rfl (by omega) W6 w.heap.size k _ l ⟨2, sop, ioq, bor, 0⟩ #[.int .i64 2, str sop, str ioq, str bor, .int .i64 0] rfl how (by omega) (by omega)
            have Hrun := Lib.hid hrun
            have Ho' := Lib.hid ho'
            have Hb' := Lib.hid (below_own ((Hbe.out.trans (Hb6.out.mono hszw)).alloc (by omega) _) hg' (how.alloc _) (Nat.le_refl _) (by simp; omega))
            have Hdr' := Lib.hid (show ∀ a ∈ l ++ [⟨2, sop, ioq, bor, 0⟩], OkA a from fun a ha => by
              rcases List.mem_append.1 ha with ha | ha
              · exact Hdr.out a ha
              · have e : a = ⟨2, sop, ioq, bor, 0⟩ := by simpa using ha
                rw [e]
                exact okA_key _ _ _ _ (.inr rfl) HSo.out Hio.out Hbo.out)
            have Hcl' := Lib.hid (show (l ++ [(⟨2, sop, ioq, bor, 0⟩ : Ak)]).length = k + 1 by rw [List.length_append, Hcl.out]; rfl)
            clear hrun ho' hg' how
            go_wp2_with (first | (at_builtin; refine rw_app rfl _ _ _ rfl _ _ (by rfl) (by rfl) Hrun.out ?_; clear Hrun) | fail)
            go_roundg (lim - (k + 1))
            case measure => have := Hgk.out; omega
            case rel => exact ⟨k + 1, _, by go_num, by omega, by omega, rfl, Hcl'.out, Hdr'.out, Ho'.out, Hb'.out⟩
          · by_cases x56 : c8 = 5 ∨ c8 = 6
            · have hc9i : (c9 : Int) < 9 := by omega
              have hwr : IntKind.i64.wrap (1 + (c9 : Int)) = (c9 : Int) + 1 := by rw [IntWalk.i64_in _ (by omega)]; omega
              have hPk : Calls Try.prog 17 #[.int .i64 (z.tdiv 336), .int .i64 9] w6.drew fun e w' => e = .returned (.int .i64 (c9 : Int)) ∧ w' = w6.drew := by rw [← Hc9.out]; exact picked_k _ 9 _ (by decide) (by decide)
              rcases x56 with rfl | rfl
              all_goals
                go_wp2_with fail
                go_still_tail 7, (by kernel_rfl)
                still_call hPk
                repeat still_step
                refine wpStill_nil ?_
                change wpList _ _ _ _ _ w6.drew
                have hd : Below w6.heap.size w6 w6.drew := (Below.refl _ _).drew
                have HBd : Hid (Blk w6.drew g18 55 #[.int .i64 1, str sop, str ioq, str bor, .int .i64 0]) := Lib.hid (HB.out.below hd hgl)
                have Hbd : Hid (Below wr.heap.size wr w6.drew) := Lib.hid Hb.out.drew
                clear c0 c1 c2 c3 c4 r0 r1 r2 r3 r4 hd hPk
                generalize w6.drew = w7 at *
                have c0 : w7.cell? ⟨g18, 0, none⟩ = some (.int .i64 1) := HBd.out.cell 0
                have c1 : w7.cell? ⟨g18, 1, none⟩ = some (str sop) := HBd.out.cell 1
                have c2 : w7.cell? ⟨g18, 2, none⟩ = some (str ioq) := HBd.out.cell 2
                have c3 : w7.cell? ⟨g18, 3, none⟩ = some (str bor) := HBd.out.cell 3
                have c4 : w7.cell? ⟨g18, 4, none⟩ = some (.int .i64 0) := HBd.out.cell 4
                have r0 := HBd.out.frozen 0
                have r1 := HBd.out.frozen 1
                have r2 := HBd.out.frozen 2
                have r3 := HBd.out.frozen 3
                have r4 := HBd.out.frozen 4
                have hB6 : Blk (((((w7.setCell ⟨g18, 0, none⟩ (.int .i64 3)).setCell ⟨g18, 1, none⟩ (str sop)).setCell ⟨g18, 2, none⟩ (.string ⟨#[]⟩)).setCell ⟨g18, 3, none⟩ (.string ⟨#[]⟩)).setCell ⟨g18, 4, none⟩ (.int .i64 ((c9 : Int) + 1))) g18 55 #[.int .i64 3, str sop, .string ⟨#[]⟩, .string ⟨#[]⟩, .int .i64 ((c9 : Int) + 1)] := (((((HBd.out.set_ 0 _).set_ 1 _).set_ 2 _).set_ 3 _).set_ 4 _)
                have Hb6 : Hid (Below wr.heap.size wr (((((w7.setCell ⟨g18, 0, none⟩ (.int .i64 3)).setCell ⟨g18, 1, none⟩ (str sop)).setCell ⟨g18, 2, none⟩ (.string ⟨#[]⟩)).setCell ⟨g18, 3, none⟩ (.string ⟨#[]⟩)).setCell ⟨g18, 4, none⟩ (.int .i64 ((c9 : Int) + 1)))) := Lib.hid (((((Hbd.out.setCell (p := ⟨g18, 0, none⟩) hgx _).setCell (p := ⟨g18, 1, none⟩) hgx _).setCell (p := ⟨g18, 2, none⟩) hgx _).setCell (p := ⟨g18, 3, none⟩) hgx _).setCell (p := ⟨g18, 4, none⟩) hgx _)
                obtain ⟨W6, hW6⟩ : ∃ W6, (((((w7.setCell ⟨g18, 0, none⟩ (.int .i64 3)).setCell ⟨g18, 1, none⟩ (str sop)).setCell ⟨g18, 2, none⟩ (.string ⟨#[]⟩)).setCell ⟨g18, 3, none⟩ (.string ⟨#[]⟩)).setCell ⟨g18, 4, none⟩ (.int .i64 ((c9 : Int) + 1))) = W6 := ⟨_, rfl⟩
                rw [hW6] at Hb6 hB6
                have d0 : W6.cell? ⟨g18, 0, none⟩ = some (.int .i64 3) := hB6.cell 0
                have d1 : W6.cell? ⟨g18, 1, none⟩ = some (str sop) := hB6.cell 1
                have d2 : W6.cell? ⟨g18, 2, none⟩ = some (.string ⟨#[]⟩) := hB6.cell 2
                have d3 : W6.cell? ⟨g18, 3, none⟩ = some (.string ⟨#[]⟩) := hB6.cell 3
                have d4 : W6.cell? ⟨g18, 4, none⟩ = some (.int .i64 ((c9 : Int) + 1)) := hB6.cell 4
                have hgl6 := hB6.lt
                have Hc9l : Hid (c9 < 9) := Lib.hid hc99
                clear hwr
                have how := own_below Ho.out Hb6.out
                have hsz6 := Hb6.out.size
                obtain ⟨v', wf, hrun, ho', hg', -⟩ := run_app_el (P := Try.prog) (enc := akL) akL_len akL_one (by omega) Try.underlying22 info_ask rfl (by omega) W6 w.heap.size k _ l ⟨3, sop, [], [], (c9 : Int) + 1⟩ #[.int .i64 3, str sop, .string ⟨#[]⟩, .string ⟨#[]⟩, .int .i64 ((c9 : Int) + 1)] rfl how (by omega) (by omega)
                have Hrun := Lib.hid hrun
                have Ho' := Lib.hid ho'
                have Hb' := Lib.hid (below_own ((Hbe.out.trans (Hb6.out.mono hszw)).alloc (by omega) _) hg' (how.alloc _) (Nat.le_refl _) (by simp; omega))
                have Hdr' := Lib.hid (show ∀ a ∈ l ++ [⟨3, sop, [], [], (c9 : Int) + 1⟩], OkA a from fun a ha => by
                  rcases List.mem_append.1 ha with ha | ha
                  · exact Hdr.out a ha
                  · have e : a = ⟨3, sop, [], [], (c9 : Int) + 1⟩ := by simpa using ha
                    rw [e]
                    exact okA_claim _ _ Hc9l.out HSo.out)
                have Hcl' := Lib.hid (show (l ++ [(⟨3, sop, [], [], (c9 : Int) + 1⟩ : Ak)]).length = k + 1 by rw [List.length_append, Hcl.out]; rfl)
                clear hrun ho' hg' how
                go_wp2_with (first | (at_builtin; refine rw_app rfl _ _ _ rfl _ _ (by rfl) (by rfl) Hrun.out ?_; clear Hrun) | fail)
                go_roundg (lim - (k + 1))
                case measure => have := Hgk.out; omega
                case rel => exact ⟨k + 1, _, by go_num, by omega, by omega, rfl, Hcl'.out, Hdr'.out, Ho'.out, Hb'.out⟩
            · have n5 : ¬ c8 = 5 := fun h => x56 (.inl h)
              have n6 : ¬ c8 = 6 := fun h => x56 (.inr h)
              by_cases x7 : c8 = 7
              · subst x7
                clear n5 n6 x4 x56
                have hB6 : Blk (((((w6.setCell ⟨g18, 0, none⟩ (.int .i64 4)).setCell ⟨g18, 1, none⟩ (str sop)).setCell ⟨g18, 2, none⟩ (.string ⟨#[]⟩)).setCell ⟨g18, 3, none⟩ (.string ⟨#[]⟩)).setCell ⟨g18, 4, none⟩ (.int .i64 0)) g18 55 #[.int .i64 4, str sop, .string ⟨#[]⟩, .string ⟨#[]⟩, .int .i64 0] := (((((HB.out.set_ 0 _).set_ 1 _).set_ 2 _).set_ 3 _).set_ 4 _)
                have Hb6 : Hid (Below wr.heap.size wr (((((w6.setCell ⟨g18, 0, none⟩ (.int .i64 4)).setCell ⟨g18, 1, none⟩ (str sop)).setCell ⟨g18, 2, none⟩ (.string ⟨#[]⟩)).setCell ⟨g18, 3, none⟩ (.string ⟨#[]⟩)).setCell ⟨g18, 4, none⟩ (.int .i64 0))) := Lib.hid (((((Hb.out.setCell (p := ⟨g18, 0, none⟩) hgx _).setCell (p := ⟨g18, 1, none⟩) hgx _).setCell (p := ⟨g18, 2, none⟩) hgx _).setCell (p := ⟨g18, 3, none⟩) hgx _).setCell (p := ⟨g18, 4, none⟩) hgx _)
                obtain ⟨W6, hW6⟩ : ∃ W6, (((((w6.setCell ⟨g18, 0, none⟩ (.int .i64 4)).setCell ⟨g18, 1, none⟩ (str sop)).setCell ⟨g18, 2, none⟩ (.string ⟨#[]⟩)).setCell ⟨g18, 3, none⟩ (.string ⟨#[]⟩)).setCell ⟨g18, 4, none⟩ (.int .i64 0)) = W6 := ⟨_, rfl⟩
                rw [hW6] at Hb6 hB6
                have d0 : W6.cell? ⟨g18, 0, none⟩ = some (.int .i64 4) := hB6.cell 0
                have d1 : W6.cell? ⟨g18, 1, none⟩ = some (str sop) := hB6.cell 1
                have d2 : W6.cell? ⟨g18, 2, none⟩ = some (.string ⟨#[]⟩) := hB6.cell 2
                have d3 : W6.cell? ⟨g18, 3, none⟩ = some (.string ⟨#[]⟩) := hB6.cell 3
                have d4 : W6.cell? ⟨g18, 4, none⟩ = some (.int .i64 0) := hB6.cell 4
                have hgl6 := hB6.lt
                have how := own_below Ho.out Hb6.out
                have hsz6 := Hb6.out.size
                obtain ⟨v', wf, hrun, ho', hg', -⟩ := run_app_el (P := Try.prog) (enc := akL) akL_len akL_one (by omega) Try.underlying22 info_ask rfl (by omega) W6 w.heap.size k _ l ⟨4, sop, [], [], 0⟩ #[.int .i64 4, str sop, .string ⟨#[]⟩, .string ⟨#[]⟩, .int .i64 0] rfl how (by omega) (by omega)
                have Hrun := Lib.hid hrun
                have Ho' := Lib.hid ho'
                have Hb' := Lib.hid (below_own ((Hbe.out.trans (Hb6.out.mono hszw)).alloc (by omega) _) hg' (how.alloc _) (Nat.le_refl _) (by simp; omega))
                have Hdr' := Lib.hid (show ∀ a ∈ l ++ [⟨4, sop, [], [], 0⟩], OkA a from fun a ha => by
                  rcases List.mem_append.1 ha with ha | ha
                  · exact Hdr.out a ha
                  · have e : a = ⟨4, sop, [], [], 0⟩ := by simpa using ha
                    rw [e]
                    exact okA_count _ HSo.out)
                have Hcl' := Lib.hid (show (l ++ [(⟨4, sop, [], [], 0⟩ : Ak)]).length = k + 1 by rw [List.length_append, Hcl.out]; rfl)
                clear hrun ho' hg' how
                go_wp2_with (first | (at_builtin; refine rw_app rfl _ _ _ rfl _ _ (by rfl) (by rfl) Hrun.out ?_; clear Hrun) | fail)
                go_roundg (lim - (k + 1))
                case measure => have := Hgk.out; omega
                case rel => exact ⟨k + 1, _, by go_num, by omega, by omega, rfl, Hcl'.out, Hdr'.out, Ho'.out, Hb'.out⟩
              · have Hb6 := Hb
                have m4 : ¬ (c8 : Int) = 4 := by omega
                have m5 : ¬ (c8 : Int) = 5 := by omega
                have m6 : ¬ (c8 : Int) = 6 := by omega
                have m7 : ¬ (c8 : Int) = 7 := by omega
                have how := own_below Ho.out Hb6.out
                have hsz6 := Hb6.out.size
                obtain ⟨v', wf, hrun, ho', hg', -⟩ := run_app_el (P := Try.prog) (enc := akL) akL_len akL_one (by omega) Try.underlying22 info_ask rfl (by omega) w6 w.heap.size k _ l ⟨1, sop, ioq, bor, 0⟩ #[.int .i64 1, str sop, str ioq, str bor, .int .i64 0] rfl how (by omega) (by omega)
                have Hrun := Lib.hid hrun
                have Ho' := Lib.hid ho'
                have Hb' := Lib.hid (below_own ((Hbe.out.trans (Hb6.out.mono hszw)).alloc (by omega) _) hg' (how.alloc _) (Nat.le_refl _) (by simp; omega))
                have Hdr' := Lib.hid (show ∀ a ∈ l ++ [⟨1, sop, ioq, bor, 0⟩], OkA a from fun a ha => by
                  rcases List.mem_append.1 ha with ha | ha
                  · exact Hdr.out a ha
                  · have e : a = ⟨1, sop, ioq, bor, 0⟩ := by simpa using ha
                    rw [e]
                    exact okA_key _ _ _ _ (.inl rfl) HSo.out Hio.out Hbo.out)
                have Hcl' := Lib.hid (show (l ++ [(⟨1, sop, ioq, bor, 0⟩ : Ak)]).length = k + 1 by rw [List.length_append, Hcl.out]; rfl)
                clear hrun ho' hg' how
                go_wp2_with (first | (at_builtin; refine rw_app rfl _ _ _ rfl _ _ (by rfl) (by rfl) Hrun.out ?_; clear Hrun) | fail)
                go_roundg (lim - (k + 1))
                case measure => have := Hgk.out; omega
                case rel => exact ⟨k + 1, _, by go_num, by omega, by omega, rfl, Hcl'.out, Hdr'.out, Ho'.out, Hb'.out⟩
        · intro l a w i h hi
          obtain ⟨b0, b2, b3, b4, b5, b8, b9, b10, b11, b14, b15, b16, b17, b18, b19, g0, g5, g11, g18, rfl, hd, hsz, ⟨t0, t1, t2, t3, t4, t5, t6, t7, t67, t25, t31, t37⟩, f0, f2, f3, f4, f5, f8, f9, f10, f11, f14, f15, f16, f17, f18, f19, hb⟩ := h
          obtain ⟨hun, oj, hoj, hall⟩ := mem_ready.1 hi
          have hin : i < 20 := (Array.getElem?_eq_some_iff.1 hoj).1
          rcases (by omega : i = 0 ∨ i = 1 ∨ i = 2 ∨ i = 3 ∨ i = 4 ∨ i = 5 ∨ i = 6 ∨ i = 7 ∨ i = 8 ∨ i = 9 ∨ i = 10 ∨ i = 11 ∨ i = 12 ∨ i = 13 ∨ i = 14 ∨ i = 15 ∨ i = 16 ∨ i = 17 ∨ i = 18 ∨ i = 19) with rfl | rfl | rfl | rfl | rfl | rfl | rfl | rfl | rfl | rfl | rfl | rfl | rfl | rfl | rfl | rfl | rfl | rfl | rfl | rfl
          · skip
            have hbi : b0 = false := by simpa using hun
            subst hbi
            have h19 : b19 = false := by
              cases b19 with
              | false => rfl
              | true => have := (f19 rfl).1; simp at this
            subst h19
            have Hsz := Lib.hid hsz
            have Hd := Lib.hid hd
            clear hsz hd
            refine wpOp_of rfl rfl ?_
            intro K' hK'
            go_simp
            refine hK' _ _ ?_
            show InvA _ _ _ _ _ _ _ _ _ _ (a.put (some 24) (.slice (some ⟨w.heap.size, 0, none⟩) 2 2)) (w.alloc (.cells soC 9))
            have tn := fun j (h : j ≠ 24) => Ts_ne a 24 j (.slice (some ⟨w.heap.size, 0, none⟩) 2 2) h
            have ts := Ts_self a 24 (.slice (some ⟨w.heap.size, 0, none⟩) 2 2) (by rw [Hsz.out]; decide)
            exact ⟨true, b2, b3, b4, b5, b8, b9, b10, b11, b14, b15, b16, b17, b18, false, w.heap.size, g5, g11, g18, by rfl, Hd.out, (ts_size _ _ _).trans Hsz.out, ⟨(tn 0 (by decide)).trans t0, (tn 1 (by decide)).trans t1, (tn 2 (by decide)).trans t2, (tn 3 (by decide)).trans t3, (tn 4 (by decide)).trans t4, (tn 5 (by decide)).trans t5, (tn 6 (by decide)).trans t6, (tn 7 (by decide)).trans t7, (tn 67 (by decide)).trans t67, (tn 25 (by decide)).trans t25, (tn 31 (by decide)).trans t31, (tn 37 (by decide)).trans t37⟩,
              fun _ => ⟨ts, fun _ => Blk.new w _ _⟩, fun h => (tn 26 (by decide)).trans (f2 h), fun h => absurd (f3 h).1.1 (by simp), fun h => ⟨(f4 h).1, (tn 28 (by decide)).trans (f4 h).2⟩, fun h => ⟨(tn 29 (by decide)).trans (f5 h).1, fun _ => ((f5 h).2 rfl).alloc _⟩, fun h => (tn 32 (by decide)).trans (f8 h), fun h => ⟨(f9 h).1, (tn 33 (by decide)).trans (f9 h).2⟩, fun h => ⟨(f10 h).1, (tn 34 (by decide)).trans (f10 h).2⟩, fun h => ⟨(tn 35 (by decide)).trans (f11 h).1, fun _ => ((f11 h).2 rfl).alloc _⟩, fun h => (tn 38 (by decide)).trans (f14 h), fun h => ⟨(f15 h).1, (tn 39 (by decide)).trans (f15 h).2⟩, fun h => ⟨(f16 h).1, (tn 40 (by decide)).trans (f16 h).2⟩, fun h => ⟨(f17 h).1, (tn 41 (by decide)).trans (f17 h).2⟩, fun h => ⟨(tn 8 (by decide)).trans (f18 h).1, (f18 h).2.1, fun _ => ((f18 h).2.2 rfl).alloc _⟩, fun h => (by cases h), hb.alloc hb.size _⟩
          · simp at hun
          · skip
            have hbi : b2 = false := by simpa using hun
            subst hbi
            have h19 : b19 = false := by
              cases b19 with
              | false => rfl
              | true => have := (f19 rfl).1; simp at this
            subst h19
            have e25 : (a.tmps[25]?).getD undef = .int .i64 z := t25
            have Hsz := Lib.hid hsz
            have Hd := Lib.hid hd
            clear hsz hd
            refine wpOp_of rfl rfl ?_
            intro K' hK'
            go_simp
            refine (picked_k z 2 w (by decide) (by decide)).mono ?_
            rintro e w1 ⟨rfl, hw1⟩
            obtain rfl : w = w1 := hw1.symm
            rw [Hp.out]
            refine hK' _ _ ?_
            show InvA _ _ _ _ _ _ _ _ _ _ (a.put (some 26) (.int .i64 (p : Int))) w
            have tn := fun j (h : j ≠ 26) => Ts_ne a 26 j (.int .i64 (p : Int)) h
            have ts := Ts_self a 26 (.int .i64 (p : Int)) (by rw [Hsz.out]; decide)
            exact ⟨b0, true, b3, b4, b5, b8, b9, b10, b11, b14, b15, b16, b17, b18, false, g0, g5, g11, g18, by rfl, Hd.out, (ts_size _ _ _).trans Hsz.out, ⟨(tn 0 (by decide)).trans t0, (tn 1 (by decide)).trans t1, (tn 2 (by decide)).trans t2, (tn 3 (by decide)).trans t3, (tn 4 (by decide)).trans t4, (tn 5 (by decide)).trans t5, (tn 6 (by decide)).trans t6, (tn 7 (by decide)).trans t7, (tn 67 (by decide)).trans t67, (tn 25 (by decide)).trans t25, (tn 31 (by decide)).trans t31, (tn 37 (by decide)).trans t37⟩,
              fun h => ⟨(tn 24 (by decide)).trans (f0 h).1, fun _ => ((f0 h).2 rfl)⟩, fun _ => ts, fun h => absurd (f3 h).1.2 (by simp), fun h => ⟨(f4 h).1, (tn 28 (by decide)).trans (f4 h).2⟩, fun h => ⟨(tn 29 (by decide)).trans (f5 h).1, fun _ => ((f5 h).2 rfl)⟩, fun h => (tn 32 (by decide)).trans (f8 h), fun h => ⟨(f9 h).1, (tn 33 (by decide)).trans (f9 h).2⟩, fun h => ⟨(f10 h).1, (tn 34 (by decide)).trans (f10 h).2⟩, fun h => ⟨(tn 35 (by decide)).trans (f11 h).1, fun _ => ((f11 h).2 rfl)⟩, fun h => (tn 38 (by decide)).trans (f14 h), fun h => ⟨(f15 h).1, (tn 39 (by decide)).trans (f15 h).2⟩, fun h => ⟨(f16 h).1, (tn 40 (by decide)).trans (f16 h).2⟩, fun h => ⟨(f17 h).1, (tn 41 (by decide)).trans (f17 h).2⟩, fun h => ⟨(tn 8 (by decide)).trans (f18 h).1, (f18 h).2.1, fun _ => ((f18 h).2.2 rfl)⟩, fun h => (by cases h), hb⟩
          · skip
            have hbi : b3 = false := by simpa using hun
            subst hbi
            obtain rfl := (Option.some.inj hoj).symm
            have d0 : b0 = true := by simpa using hall ⟨0, .data⟩ (by simp) (by rfl)
            have d2 : b2 = true := by simpa using hall ⟨2, .data⟩ (by simp) (by rfl)
            subst d0
            subst d2
            have h19 : b19 = false := by
              cases b19 with
              | false => rfl
              | true => have := (f19 rfl).1; simp at this
            subst h19
            have el : (a.tmps[24]?).getD undef = _ := (f0 rfl).1
            have ec : (a.tmps[26]?).getD undef = _ := f2 rfl
            have Hsz := Lib.hid hsz
            have Hd := Lib.hid hd
            clear hsz hd
            refine wpOp_of rfl rfl ?_
            intro K' hK'
            go_simp
            refine hK' _ _ ?_
            show InvA _ _ _ _ _ _ _ _ _ _ (a.put (some 27) (.pointer (some ⟨g0, p, none⟩))) w
            have tn := fun j (h : j ≠ 27) => Ts_ne a 27 j (.pointer (some ⟨g0, p, none⟩)) h
            have ts := Ts_self a 27 (.pointer (some ⟨g0, p, none⟩)) (by rw [Hsz.out]; decide)
            exact ⟨true, true, true, b4, b5, b8, b9, b10, b11, b14, b15, b16, b17, b18, false, g0, g5, g11, g18, by rfl, Hd.out, (ts_size _ _ _).trans Hsz.out, ⟨(tn 0 (by decide)).trans t0, (tn 1 (by decide)).trans t1, (tn 2 (by decide)).trans t2, (tn 3 (by decide)).trans t3, (tn 4 (by decide)).trans t4, (tn 5 (by decide)).trans t5, (tn 6 (by decide)).trans t6, (tn 7 (by decide)).trans t7, (tn 67 (by decide)).trans t67, (tn 25 (by decide)).trans t25, (tn 31 (by decide)).trans t31, (tn 37 (by decide)).trans t37⟩,
              fun h => ⟨(tn 24 (by decide)).trans (f0 h).1, fun _ => ((f0 h).2 rfl)⟩, fun h => (tn 26 (by decide)).trans (f2 h), fun _ => ⟨⟨rfl, rfl⟩, ts⟩, fun h => absurd (f4 h).1 (by simp), fun h => ⟨(tn 29 (by decide)).trans (f5 h).1, fun _ => ((f5 h).2 rfl)⟩, fun h => (tn 32 (by decide)).trans (f8 h), fun h => ⟨(f9 h).1, (tn 33 (by decide)).trans (f9 h).2⟩, fun h => ⟨(f10 h).1, (tn 34 (by decide)).trans (f10 h).2⟩, fun h => ⟨(tn 35 (by decide)).trans (f11 h).1, fun _ => ((f11 h).2 rfl)⟩, fun h => (tn 38 (by decide)).trans (f14 h), fun h => ⟨(f15 h).1, (tn 39 (by decide)).trans (f15 h).2⟩, fun h => ⟨(f16 h).1, (tn 40 (by decide)).trans (f16 h).2⟩, fun h => ⟨(f17 h).1, (tn 41 (by decide)).trans (f17 h).2⟩, fun h => ⟨(tn 8 (by decide)).trans (f18 h).1, (f18 h).2.1, fun _ => ((f18 h).2.2 rfl)⟩, fun h => (by cases h), hb⟩
          · skip
            have hbi : b4 = false := by simpa using hun
            subst hbi
            obtain rfl := (Option.some.inj hoj).symm
            have d3 : b3 = true := by simpa using hall ⟨3, .data⟩ (by simp) (by rfl)
            subst d3
            have h19 : b19 = false := by
              cases b19 with
              | false => rfl
              | true => have := (f19 rfl).1; simp at this
            subst h19
            have el : (a.tmps[27]?).getD undef = _ := (f3 rfl).2
            have ec := (((f0 (f3 rfl).1.1).2 rfl).cell p).trans (soC_at p hp2)
            have Hsz := Lib.hid hsz
            have Hd := Lib.hid hd
            clear hsz hd
            refine wpOp_of rfl rfl ?_
            intro K' hK'
            go_simp
            refine hK' _ _ ?_
            show InvA _ _ _ _ _ _ _ _ _ _ (a.put (some 28) (str (so p))) w
            have tn := fun j (h : j ≠ 28) => Ts_ne a 28 j (str (so p)) h
            have ts := Ts_self a 28 (str (so p)) (by rw [Hsz.out]; decide)
            exact ⟨b0, b2, true, true, b5, b8, b9, b10, b11, b14, b15, b16, b17, b18, false, g0, g5, g11, g18, by rfl, Hd.out, (ts_size _ _ _).trans Hsz.out, ⟨(tn 0 (by decide)).trans t0, (tn 1 (by decide)).trans t1, (tn 2 (by decide)).trans t2, (tn 3 (by decide)).trans t3, (tn 4 (by decide)).trans t4, (tn 5 (by decide)).trans t5, (tn 6 (by decide)).trans t6, (tn 7 (by decide)).trans t7, (tn 67 (by decide)).trans t67, (tn 25 (by decide)).trans t25, (tn 31 (by decide)).trans t31, (tn 37 (by decide)).trans t37⟩,
              fun h => ⟨(tn 24 (by decide)).trans (f0 h).1, fun _ => ((f0 h).2 rfl)⟩, fun h => (tn 26 (by decide)).trans (f2 h), fun h => ⟨(f3 h).1, (tn 27 (by decide)).trans (f3 h).2⟩, fun _ => ⟨rfl, ts⟩, fun h => ⟨(tn 29 (by decide)).trans (f5 h).1, fun _ => ((f5 h).2 rfl)⟩, fun h => (tn 32 (by decide)).trans (f8 h), fun h => ⟨(f9 h).1, (tn 33 (by decide)).trans (f9 h).2⟩, fun h => ⟨(f10 h).1, (tn 34 (by decide)).trans (f10 h).2⟩, fun h => ⟨(tn 35 (by decide)).trans (f11 h).1, fun _ => ((f11 h).2 rfl)⟩, fun h => (tn 38 (by decide)).trans (f14 h), fun h => ⟨(f15 h).1, (tn 39 (by decide)).trans (f15 h).2⟩, fun h => ⟨(f16 h).1, (tn 40 (by decide)).trans (f16 h).2⟩, fun h => absurd (f17 h).1.1 (by simp), fun h => ⟨(tn 8 (by decide)).trans (f18 h).1, (f18 h).2.1, fun _ => ((f18 h).2.2 rfl)⟩, fun h => (by cases h), hb⟩
          · skip
            have hbi : b5 = false := by simpa using hun
            subst hbi
            have h19 : b19 = false := by
              cases b19 with
              | false => rfl
              | true => have := (f19 rfl).1; simp at this
            subst h19
            have Hsz := Lib.hid hsz
            have Hd := Lib.hid hd
            clear hsz hd
            refine wpOp_of rfl rfl ?_
            intro K' hK'
            go_simp
            refine hK' _ _ ?_
            show InvA _ _ _ _ _ _ _ _ _ _ (a.put (some 29) (.slice (some ⟨w.heap.size, 0, none⟩) 7 7)) (w.alloc (.cells ioC 9))
            have tn := fun j (h : j ≠ 29) => Ts_ne a 29 j (.slice (some ⟨w.heap.size, 0, none⟩) 7 7) h
            have ts := Ts_self a 29 (.slice (some ⟨w.heap.size, 0, none⟩) 7 7) (by rw [Hsz.out]; decide)
            exact ⟨b0, b2, b3, b4, true, b8, b9, b10, b11, b14, b15, b16, b17, b18, false, g0, w.heap.size, g11, g18, by rfl, Hd.out, (ts_size _ _ _).trans Hsz.out, ⟨(tn 0 (by decide)).trans t0, (tn 1 (by decide)).trans t1, (tn 2 (by decide)).trans t2, (tn 3 (by decide)).trans t3, (tn 4 (by decide)).trans t4, (tn 5 (by decide)).trans t5, (tn 6 (by decide)).trans t6, (tn 7 (by decide)).trans t7, (tn 67 (by decide)).trans t67, (tn 25 (by decide)).trans t25, (tn 31 (by decide)).trans t31, (tn 37 (by decide)).trans t37⟩,
              fun h => ⟨(tn 24 (by decide)).trans (f0 h).1, fun _ => ((f0 h).2 rfl).alloc _⟩, fun h => (tn 26 (by decide)).trans (f2 h), fun h => ⟨(f3 h).1, (tn 27 (by decide)).trans (f3 h).2⟩, fun h => ⟨(f4 h).1, (tn 28 (by decide)).trans (f4 h).2⟩, fun _ => ⟨ts, fun _ => Blk.new w _ _⟩, fun h => (tn 32 (by decide)).trans (f8 h), fun h => absurd (f9 h).1.1 (by simp), fun h => ⟨(f10 h).1, (tn 34 (by decide)).trans (f10 h).2⟩, fun h => ⟨(tn 35 (by decide)).trans (f11 h).1, fun _ => ((f11 h).2 rfl).alloc _⟩, fun h => (tn 38 (by decide)).trans (f14 h), fun h => ⟨(f15 h).1, (tn 39 (by decide)).trans (f15 h).2⟩, fun h => ⟨(f16 h).1, (tn 40 (by decide)).trans (f16 h).2⟩, fun h => ⟨(f17 h).1, (tn 41 (by decide)).trans (f17 h).2⟩, fun h => ⟨(tn 8 (by decide)).trans (f18 h).1, (f18 h).2.1, fun _ => ((f18 h).2.2 rfl).alloc _⟩, fun h => (by cases h), hb.alloc hb.size _⟩
          · simp at hun
          · simp at hun
          · skip
            have hbi : b8 = false := by simpa using hun
            subst hbi
            have h19 : b19 = false := by
              cases b19 with
              | false => rfl
              | true => have := (f19 rfl).1; simp at this
            subst h19
            have e31 : (a.tmps[31]?).getD undef = .int .i64 (z.tdiv 2) := t31
            have Hsz := Lib.hid hsz
            have Hd := Lib.hid hd
            clear hsz hd
            refine wpOp_of rfl rfl ?_
            intro K' hK'
            go_simp
            refine (picked_k (z.tdiv 2) 7 w (by decide) (by decide)).mono ?_
            rintro e w1 ⟨rfl, hw1⟩
            obtain rfl : w = w1 := hw1.symm
            rw [Hq.out]
            refine hK' _ _ ?_
            show InvA _ _ _ _ _ _ _ _ _ _ (a.put (some 32) (.int .i64 (q : Int))) w
            have tn := fun j (h : j ≠ 32) => Ts_ne a 32 j (.int .i64 (q : Int)) h
            have ts := Ts_self a 32 (.int .i64 (q : Int)) (by rw [Hsz.out]; decide)
            exact ⟨b0, b2, b3, b4, b5, true, b9, b10, b11, b14, b15, b16, b17, b18, false, g0, g5, g11, g18, by rfl, Hd.out, (ts_size _ _ _).trans Hsz.out, ⟨(tn 0 (by decide)).trans t0, (tn 1 (by decide)).trans t1, (tn 2 (by decide)).trans t2, (tn 3 (by decide)).trans t3, (tn 4 (by decide)).trans t4, (tn 5 (by decide)).trans t5, (tn 6 (by decide)).trans t6, (tn 7 (by decide)).trans t7, (tn 67 (by decide)).trans t67, (tn 25 (by decide)).trans t25, (tn 31 (by decide)).trans t31, (tn 37 (by decide)).trans t37⟩,
              fun h => ⟨(tn 24 (by decide)).trans (f0 h).1, fun _ => ((f0 h).2 rfl)⟩, fun h => (tn 26 (by decide)).trans (f2 h), fun h => ⟨(f3 h).1, (tn 27 (by decide)).trans (f3 h).2⟩, fun h => ⟨(f4 h).1, (tn 28 (by decide)).trans (f4 h).2⟩, fun h => ⟨(tn 29 (by decide)).trans (f5 h).1, fun _ => ((f5 h).2 rfl)⟩, fun _ => ts, fun h => absurd (f9 h).1.2 (by simp), fun h => ⟨(f10 h).1, (tn 34 (by decide)).trans (f10 h).2⟩, fun h => ⟨(tn 35 (by decide)).trans (f11 h).1, fun _ => ((f11 h).2 rfl)⟩, fun h => (tn 38 (by decide)).trans (f14 h), fun h => ⟨(f15 h).1, (tn 39 (by decide)).trans (f15 h).2⟩, fun h => ⟨(f16 h).1, (tn 40 (by decide)).trans (f16 h).2⟩, fun h => ⟨(f17 h).1, (tn 41 (by decide)).trans (f17 h).2⟩, fun h => ⟨(tn 8 (by decide)).trans (f18 h).1, (f18 h).2.1, fun _ => ((f18 h).2.2 rfl)⟩, fun h => (by cases h), hb⟩
          · skip
            have hbi : b9 = false := by simpa using hun
            subst hbi
            obtain rfl := (Option.some.inj hoj).symm
            have d5 : b5 = true := by simpa using hall ⟨5, .data⟩ (by simp) (by rfl)
            have d8 : b8 = true := by simpa using hall ⟨8, .data⟩ (by simp) (by rfl)
            subst d5
            subst d8
            have h19 : b19 = false := by
              cases b19 with
              | false => rfl
              | true => have := (f19 rfl).1; simp at this
            subst h19
            have el : (a.tmps[29]?).getD undef = _ := (f5 rfl).1
            have ec : (a.tmps[32]?).getD undef = _ := f8 rfl
            have Hsz := Lib.hid hsz
            have Hd := Lib.hid hd
            clear hsz hd
            refine wpOp_of rfl rfl ?_
            intro K' hK'
            go_simp
            refine hK' _ _ ?_
            show InvA _ _ _ _ _ _ _ _ _ _ (a.put (some 33) (.pointer (some ⟨g5, q, none⟩))) w
            have tn := fun j (h : j ≠ 33) => Ts_ne a 33 j (.pointer (some ⟨g5, q, none⟩)) h
            have ts := Ts_self a 33 (.pointer (some ⟨g5, q, none⟩)) (by rw [Hsz.out]; decide)
            exact ⟨b0, b2, b3, b4, true, true, true, b10, b11, b14, b15, b16, b17, b18, false, g0, g5, g11, g18, by rfl, Hd.out, (ts_size _ _ _).trans Hsz.out, ⟨(tn 0 (by decide)).trans t0, (tn 1 (by decide)).trans t1, (tn 2 (by decide)).trans t2, (tn 3 (by decide)).trans t3, (tn 4 (by decide)).trans t4, (tn 5 (by decide)).trans t5, (tn 6 (by decide)).trans t6, (tn 7 (by decide)).trans t7, (tn 67 (by decide)).trans t67, (tn 25 (by decide)).trans t25, (tn 31 (by decide)).trans t31, (tn 37 (by decide)).trans t37⟩,
              fun h => ⟨(tn 24 (by decide)).trans (f0 h).1, fun _ => ((f0 h).2 rfl)⟩, fun h => (tn 26 (by decide)).trans (f2 h), fun h => ⟨(f3 h).1, (tn 27 (by decide)).trans (f3 h).2⟩, fun h => ⟨(f4 h).1, (tn 28 (by decide)).trans (f4 h).2⟩, fun h => ⟨(tn 29 (by decide)).trans (f5 h).1, fun _ => ((f5 h).2 rfl)⟩, fun h => (tn 32 (by decide)).trans (f8 h), fun _ => ⟨⟨rfl, rfl⟩, ts⟩, fun h => absurd (f10 h).1 (by simp), fun h => ⟨(tn 35 (by decide)).trans (f11 h).1, fun _ => ((f11 h).2 rfl)⟩, fun h => (tn 38 (by decide)).trans (f14 h), fun h => ⟨(f15 h).1, (tn 39 (by decide)).trans (f15 h).2⟩, fun h => ⟨(f16 h).1, (tn 40 (by decide)).trans (f16 h).2⟩, fun h => ⟨(f17 h).1, (tn 41 (by decide)).trans (f17 h).2⟩, fun h => ⟨(tn 8 (by decide)).trans (f18 h).1, (f18 h).2.1, fun _ => ((f18 h).2.2 rfl)⟩, fun h => (by cases h), hb⟩
          · skip
            have hbi : b10 = false := by simpa using hun
            subst hbi
            obtain rfl := (Option.some.inj hoj).symm
            have d9 : b9 = true := by simpa using hall ⟨9, .data⟩ (by simp) (by rfl)
            subst d9
            have h19 : b19 = false := by
              cases b19 with
              | false => rfl
              | true => have := (f19 rfl).1; simp at this
            subst h19
            have el : (a.tmps[33]?).getD undef = _ := (f9 rfl).2
            have ec := (((f5 (f9 rfl).1.1).2 rfl).cell q).trans (ioC_at q hq7)
            have Hsz := Lib.hid hsz
            have Hd := Lib.hid hd
            clear hsz hd
            refine wpOp_of rfl rfl ?_
            intro K' hK'
            go_simp
            refine hK' _ _ ?_
            show InvA _ _ _ _ _ _ _ _ _ _ (a.put (some 34) (str (io q))) w
            have tn := fun j (h : j ≠ 34) => Ts_ne a 34 j (str (io q)) h
            have ts := Ts_self a 34 (str (io q)) (by rw [Hsz.out]; decide)
            exact ⟨b0, b2, b3, b4, b5, b8, true, true, b11, b14, b15, b16, b17, b18, false, g0, g5, g11, g18, by rfl, Hd.out, (ts_size _ _ _).trans Hsz.out, ⟨(tn 0 (by decide)).trans t0, (tn 1 (by decide)).trans t1, (tn 2 (by decide)).trans t2, (tn 3 (by decide)).trans t3, (tn 4 (by decide)).trans t4, (tn 5 (by decide)).trans t5, (tn 6 (by decide)).trans t6, (tn 7 (by decide)).trans t7, (tn 67 (by decide)).trans t67, (tn 25 (by decide)).trans t25, (tn 31 (by decide)).trans t31, (tn 37 (by decide)).trans t37⟩,
              fun h => ⟨(tn 24 (by decide)).trans (f0 h).1, fun _ => ((f0 h).2 rfl)⟩, fun h => (tn 26 (by decide)).trans (f2 h), fun h => ⟨(f3 h).1, (tn 27 (by decide)).trans (f3 h).2⟩, fun h => ⟨(f4 h).1, (tn 28 (by decide)).trans (f4 h).2⟩, fun h => ⟨(tn 29 (by decide)).trans (f5 h).1, fun _ => ((f5 h).2 rfl)⟩, fun h => (tn 32 (by decide)).trans (f8 h), fun h => ⟨(f9 h).1, (tn 33 (by decide)).trans (f9 h).2⟩, fun _ => ⟨rfl, ts⟩, fun h => ⟨(tn 35 (by decide)).trans (f11 h).1, fun _ => ((f11 h).2 rfl)⟩, fun h => (tn 38 (by decide)).trans (f14 h), fun h => ⟨(f15 h).1, (tn 39 (by decide)).trans (f15 h).2⟩, fun h => ⟨(f16 h).1, (tn 40 (by decide)).trans (f16 h).2⟩, fun h => absurd (f17 h).1.2.1 (by simp), fun h => ⟨(tn 8 (by decide)).trans (f18 h).1, (f18 h).2.1, fun _ => ((f18 h).2.2 rfl)⟩, fun h => (by cases h), hb⟩
          · skip
            have hbi : b11 = false := by simpa using hun
            subst hbi
            have h19 : b19 = false := by
              cases b19 with
              | false => rfl
              | true => have := (f19 rfl).1; simp at this
            subst h19
            have Hsz := Lib.hid hsz
            have Hd := Lib.hid hd
            clear hsz hd
            refine wpOp_of rfl rfl ?_
            intro K' hK'
            go_simp
            refine hK' _ _ ?_
            show InvA _ _ _ _ _ _ _ _ _ _ (a.put (some 35) (.slice (some ⟨w.heap.size, 0, none⟩) 3 3)) (w.alloc (.cells boC 9))
            have tn := fun j (h : j ≠ 35) => Ts_ne a 35 j (.slice (some ⟨w.heap.size, 0, none⟩) 3 3) h
            have ts := Ts_self a 35 (.slice (some ⟨w.heap.size, 0, none⟩) 3 3) (by rw [Hsz.out]; decide)
            exact ⟨b0, b2, b3, b4, b5, b8, b9, b10, true, b14, b15, b16, b17, b18, false, g0, g5, w.heap.size, g18, by rfl, Hd.out, (ts_size _ _ _).trans Hsz.out, ⟨(tn 0 (by decide)).trans t0, (tn 1 (by decide)).trans t1, (tn 2 (by decide)).trans t2, (tn 3 (by decide)).trans t3, (tn 4 (by decide)).trans t4, (tn 5 (by decide)).trans t5, (tn 6 (by decide)).trans t6, (tn 7 (by decide)).trans t7, (tn 67 (by decide)).trans t67, (tn 25 (by decide)).trans t25, (tn 31 (by decide)).trans t31, (tn 37 (by decide)).trans t37⟩,
              fun h => ⟨(tn 24 (by decide)).trans (f0 h).1, fun _ => ((f0 h).2 rfl).alloc _⟩, fun h => (tn 26 (by decide)).trans (f2 h), fun h => ⟨(f3 h).1, (tn 27 (by decide)).trans (f3 h).2⟩, fun h => ⟨(f4 h).1, (tn 28 (by decide)).trans (f4 h).2⟩, fun h => ⟨(tn 29 (by decide)).trans (f5 h).1, fun _ => ((f5 h).2 rfl).alloc _⟩, fun h => (tn 32 (by decide)).trans (f8 h), fun h => ⟨(f9 h).1, (tn 33 (by decide)).trans (f9 h).2⟩, fun h => ⟨(f10 h).1, (tn 34 (by decide)).trans (f10 h).2⟩, fun _ => ⟨ts, fun _ => Blk.new w _ _⟩, fun h => (tn 38 (by decide)).trans (f14 h), fun h => absurd (f15 h).1.1 (by simp), fun h => ⟨(f16 h).1, (tn 40 (by decide)).trans (f16 h).2⟩, fun h => ⟨(f17 h).1, (tn 41 (by decide)).trans (f17 h).2⟩, fun h => ⟨(tn 8 (by decide)).trans (f18 h).1, (f18 h).2.1, fun _ => ((f18 h).2.2 rfl).alloc _⟩, fun h => (by cases h), hb.alloc hb.size _⟩
          · simp at hun
          · simp at hun
          · skip
            have hbi : b14 = false := by simpa using hun
            subst hbi
            have h19 : b19 = false := by
              cases b19 with
              | false => rfl
              | true => have := (f19 rfl).1; simp at this
            subst h19
            have e37 : (a.tmps[37]?).getD undef = .int .i64 (z.tdiv 14) := t37
            have Hsz := Lib.hid hsz
            have Hd := Lib.hid hd
            clear hsz hd
            refine wpOp_of rfl rfl ?_
            intro K' hK'
            go_simp
            refine (picked_k (z.tdiv 14) 3 w (by decide) (by decide)).mono ?_
            rintro e w1 ⟨rfl, hw1⟩
            obtain rfl : w = w1 := hw1.symm
            rw [Hr.out]
            refine hK' _ _ ?_
            show InvA _ _ _ _ _ _ _ _ _ _ (a.put (some 38) (.int .i64 (r : Int))) w
            have tn := fun j (h : j ≠ 38) => Ts_ne a 38 j (.int .i64 (r : Int)) h
            have ts := Ts_self a 38 (.int .i64 (r : Int)) (by rw [Hsz.out]; decide)
            exact ⟨b0, b2, b3, b4, b5, b8, b9, b10, b11, true, b15, b16, b17, b18, false, g0, g5, g11, g18, by rfl, Hd.out, (ts_size _ _ _).trans Hsz.out, ⟨(tn 0 (by decide)).trans t0, (tn 1 (by decide)).trans t1, (tn 2 (by decide)).trans t2, (tn 3 (by decide)).trans t3, (tn 4 (by decide)).trans t4, (tn 5 (by decide)).trans t5, (tn 6 (by decide)).trans t6, (tn 7 (by decide)).trans t7, (tn 67 (by decide)).trans t67, (tn 25 (by decide)).trans t25, (tn 31 (by decide)).trans t31, (tn 37 (by decide)).trans t37⟩,
              fun h => ⟨(tn 24 (by decide)).trans (f0 h).1, fun _ => ((f0 h).2 rfl)⟩, fun h => (tn 26 (by decide)).trans (f2 h), fun h => ⟨(f3 h).1, (tn 27 (by decide)).trans (f3 h).2⟩, fun h => ⟨(f4 h).1, (tn 28 (by decide)).trans (f4 h).2⟩, fun h => ⟨(tn 29 (by decide)).trans (f5 h).1, fun _ => ((f5 h).2 rfl)⟩, fun h => (tn 32 (by decide)).trans (f8 h), fun h => ⟨(f9 h).1, (tn 33 (by decide)).trans (f9 h).2⟩, fun h => ⟨(f10 h).1, (tn 34 (by decide)).trans (f10 h).2⟩, fun h => ⟨(tn 35 (by decide)).trans (f11 h).1, fun _ => ((f11 h).2 rfl)⟩, fun _ => ts, fun h => absurd (f15 h).1.2 (by simp), fun h => ⟨(f16 h).1, (tn 40 (by decide)).trans (f16 h).2⟩, fun h => ⟨(f17 h).1, (tn 41 (by decide)).trans (f17 h).2⟩, fun h => ⟨(tn 8 (by decide)).trans (f18 h).1, (f18 h).2.1, fun _ => ((f18 h).2.2 rfl)⟩, fun h => (by cases h), hb⟩
          · skip
            have hbi : b15 = false := by simpa using hun
            subst hbi
            obtain rfl := (Option.some.inj hoj).symm
            have d11 : b11 = true := by simpa using hall ⟨11, .data⟩ (by simp) (by rfl)
            have d14 : b14 = true := by simpa using hall ⟨14, .data⟩ (by simp) (by rfl)
            subst d11
            subst d14
            have h19 : b19 = false := by
              cases b19 with
              | false => rfl
              | true => have := (f19 rfl).1; simp at this
            subst h19
            have el : (a.tmps[35]?).getD undef = _ := (f11 rfl).1
            have ec : (a.tmps[38]?).getD undef = _ := f14 rfl
            have Hsz := Lib.hid hsz
            have Hd := Lib.hid hd
            clear hsz hd
            refine wpOp_of rfl rfl ?_
            intro K' hK'
            go_simp
            refine hK' _ _ ?_
            show InvA _ _ _ _ _ _ _ _ _ _ (a.put (some 39) (.pointer (some ⟨g11, r, none⟩))) w
            have tn := fun j (h : j ≠ 39) => Ts_ne a 39 j (.pointer (some ⟨g11, r, none⟩)) h
            have ts := Ts_self a 39 (.pointer (some ⟨g11, r, none⟩)) (by rw [Hsz.out]; decide)
            exact ⟨b0, b2, b3, b4, b5, b8, b9, b10, true, true, true, b16, b17, b18, false, g0, g5, g11, g18, by rfl, Hd.out, (ts_size _ _ _).trans Hsz.out, ⟨(tn 0 (by decide)).trans t0, (tn 1 (by decide)).trans t1, (tn 2 (by decide)).trans t2, (tn 3 (by decide)).trans t3, (tn 4 (by decide)).trans t4, (tn 5 (by decide)).trans t5, (tn 6 (by decide)).trans t6, (tn 7 (by decide)).trans t7, (tn 67 (by decide)).trans t67, (tn 25 (by decide)).trans t25, (tn 31 (by decide)).trans t31, (tn 37 (by decide)).trans t37⟩,
              fun h => ⟨(tn 24 (by decide)).trans (f0 h).1, fun _ => ((f0 h).2 rfl)⟩, fun h => (tn 26 (by decide)).trans (f2 h), fun h => ⟨(f3 h).1, (tn 27 (by decide)).trans (f3 h).2⟩, fun h => ⟨(f4 h).1, (tn 28 (by decide)).trans (f4 h).2⟩, fun h => ⟨(tn 29 (by decide)).trans (f5 h).1, fun _ => ((f5 h).2 rfl)⟩, fun h => (tn 32 (by decide)).trans (f8 h), fun h => ⟨(f9 h).1, (tn 33 (by decide)).trans (f9 h).2⟩, fun h => ⟨(f10 h).1, (tn 34 (by decide)).trans (f10 h).2⟩, fun h => ⟨(tn 35 (by decide)).trans (f11 h).1, fun _ => ((f11 h).2 rfl)⟩, fun h => (tn 38 (by decide)).trans (f14 h), fun _ => ⟨⟨rfl, rfl⟩, ts⟩, fun h => absurd (f16 h).1 (by simp), fun h => ⟨(f17 h).1, (tn 41 (by decide)).trans (f17 h).2⟩, fun h => ⟨(tn 8 (by decide)).trans (f18 h).1, (f18 h).2.1, fun _ => ((f18 h).2.2 rfl)⟩, fun h => (by cases h), hb⟩
          · skip
            have hbi : b16 = false := by simpa using hun
            subst hbi
            obtain rfl := (Option.some.inj hoj).symm
            have d15 : b15 = true := by simpa using hall ⟨15, .data⟩ (by simp) (by rfl)
            subst d15
            have h19 : b19 = false := by
              cases b19 with
              | false => rfl
              | true => have := (f19 rfl).1; simp at this
            subst h19
            have el : (a.tmps[39]?).getD undef = _ := (f15 rfl).2
            have ec := (((f11 (f15 rfl).1.1).2 rfl).cell r).trans (boC_at r hr3)
            have Hsz := Lib.hid hsz
            have Hd := Lib.hid hd
            clear hsz hd
            refine wpOp_of rfl rfl ?_
            intro K' hK'
            go_simp
            refine hK' _ _ ?_
            show InvA _ _ _ _ _ _ _ _ _ _ (a.put (some 40) (str (bo r))) w
            have tn := fun j (h : j ≠ 40) => Ts_ne a 40 j (str (bo r)) h
            have ts := Ts_self a 40 (str (bo r)) (by rw [Hsz.out]; decide)
            exact ⟨b0, b2, b3, b4, b5, b8, b9, b10, b11, b14, true, true, b17, b18, false, g0, g5, g11, g18, by rfl, Hd.out, (ts_size _ _ _).trans Hsz.out, ⟨(tn 0 (by decide)).trans t0, (tn 1 (by decide)).trans t1, (tn 2 (by decide)).trans t2, (tn 3 (by decide)).trans t3, (tn 4 (by decide)).trans t4, (tn 5 (by decide)).trans t5, (tn 6 (by decide)).trans t6, (tn 7 (by decide)).trans t7, (tn 67 (by decide)).trans t67, (tn 25 (by decide)).trans t25, (tn 31 (by decide)).trans t31, (tn 37 (by decide)).trans t37⟩,
              fun h => ⟨(tn 24 (by decide)).trans (f0 h).1, fun _ => ((f0 h).2 rfl)⟩, fun h => (tn 26 (by decide)).trans (f2 h), fun h => ⟨(f3 h).1, (tn 27 (by decide)).trans (f3 h).2⟩, fun h => ⟨(f4 h).1, (tn 28 (by decide)).trans (f4 h).2⟩, fun h => ⟨(tn 29 (by decide)).trans (f5 h).1, fun _ => ((f5 h).2 rfl)⟩, fun h => (tn 32 (by decide)).trans (f8 h), fun h => ⟨(f9 h).1, (tn 33 (by decide)).trans (f9 h).2⟩, fun h => ⟨(f10 h).1, (tn 34 (by decide)).trans (f10 h).2⟩, fun h => ⟨(tn 35 (by decide)).trans (f11 h).1, fun _ => ((f11 h).2 rfl)⟩, fun h => (tn 38 (by decide)).trans (f14 h), fun h => ⟨(f15 h).1, (tn 39 (by decide)).trans (f15 h).2⟩, fun _ => ⟨rfl, ts⟩, fun h => absurd (f17 h).1.2.2 (by simp), fun h => ⟨(tn 8 (by decide)).trans (f18 h).1, (f18 h).2.1, fun _ => ((f18 h).2.2 rfl)⟩, fun h => (by cases h), hb⟩
          · skip
            have hbi : b17 = false := by simpa using hun
            subst hbi
            obtain rfl := (Option.some.inj hoj).symm
            have d4 : b4 = true := by simpa using hall ⟨4, .data⟩ (by simp) (by rfl)
            have d10 : b10 = true := by simpa using hall ⟨10, .data⟩ (by simp) (by rfl)
            have d16 : b16 = true := by simpa using hall ⟨16, .data⟩ (by simp) (by rfl)
            subst d4
            subst d10
            subst d16
            have h19 : b19 = false := by
              cases b19 with
              | false => rfl
              | true => have := (f19 rfl).1; simp at this
            subst h19
            have e4 : (a.tmps[28]?).getD undef = _ := (f4 rfl).2
            have e10 : (a.tmps[34]?).getD undef = _ := (f10 rfl).2
            have e16 : (a.tmps[40]?).getD undef = _ := (f16 rfl).2
            have Hsz := Lib.hid hsz
            have Hd := Lib.hid hd
            clear hsz hd
            refine wpOp_of rfl rfl ?_
            intro K' hK'
            go_simp
            refine hK' _ _ ?_
            show InvA _ _ _ _ _ _ _ _ _ _ (a.put (some 41) (.agg #[.int .i64 1, str (so p), str (io q), str (bo r), .int .i64 0])) w
            have tn := fun j (h : j ≠ 41) => Ts_ne a 41 j (.agg #[.int .i64 1, str (so p), str (io q), str (bo r), .int .i64 0]) h
            have ts := Ts_self a 41 (.agg #[.int .i64 1, str (so p), str (io q), str (bo r), .int .i64 0]) (by rw [Hsz.out]; decide)
            exact ⟨b0, b2, b3, true, b5, b8, b9, true, b11, b14, b15, true, true, b18, false, g0, g5, g11, g18, by rfl, Hd.out, (ts_size _ _ _).trans Hsz.out, ⟨(tn 0 (by decide)).trans t0, (tn 1 (by decide)).trans t1, (tn 2 (by decide)).trans t2, (tn 3 (by decide)).trans t3, (tn 4 (by decide)).trans t4, (tn 5 (by decide)).trans t5, (tn 6 (by decide)).trans t6, (tn 7 (by decide)).trans t7, (tn 67 (by decide)).trans t67, (tn 25 (by decide)).trans t25, (tn 31 (by decide)).trans t31, (tn 37 (by decide)).trans t37⟩,
              fun h => ⟨(tn 24 (by decide)).trans (f0 h).1, fun _ => ((f0 h).2 rfl)⟩, fun h => (tn 26 (by decide)).trans (f2 h), fun h => ⟨(f3 h).1, (tn 27 (by decide)).trans (f3 h).2⟩, fun h => ⟨(f4 h).1, (tn 28 (by decide)).trans (f4 h).2⟩, fun h => ⟨(tn 29 (by decide)).trans (f5 h).1, fun _ => ((f5 h).2 rfl)⟩, fun h => (tn 32 (by decide)).trans (f8 h), fun h => ⟨(f9 h).1, (tn 33 (by decide)).trans (f9 h).2⟩, fun h => ⟨(f10 h).1, (tn 34 (by decide)).trans (f10 h).2⟩, fun h => ⟨(tn 35 (by decide)).trans (f11 h).1, fun _ => ((f11 h).2 rfl)⟩, fun h => (tn 38 (by decide)).trans (f14 h), fun h => ⟨(f15 h).1, (tn 39 (by decide)).trans (f15 h).2⟩, fun h => ⟨(f16 h).1, (tn 40 (by decide)).trans (f16 h).2⟩, fun _ => ⟨⟨rfl, rfl, rfl⟩, ts⟩, fun h => ⟨(tn 8 (by decide)).trans (f18 h).1, (f18 h).2.1, fun _ => ((f18 h).2.2 rfl)⟩, fun h => (by cases h), hb⟩
          · skip
            have hbi : b18 = false := by simpa using hun
            subst hbi
            have h19 : b19 = false := by
              cases b19 with
              | false => rfl
              | true => have := (f19 rfl).1; simp at this
            subst h19
            have Hsz := Lib.hid hsz
            have Hd := Lib.hid hd
            clear hsz hd
            refine wpOp_of rfl rfl ?_
            intro K' hK'
            go_simp
            refine hK' _ _ ?_
            show InvA _ _ _ _ _ _ _ _ _ _ (a.put (some 8) (.pointer (some ⟨w.heap.size, 0, none⟩))) (w.alloc (.cells #[.int .i64 0, .string ⟨#[]⟩, .string ⟨#[]⟩, .string ⟨#[]⟩, .int .i64 0] 55))
            have tn := fun j (h : j ≠ 8) => Ts_ne a 8 j (.pointer (some ⟨w.heap.size, 0, none⟩)) h
            have ts := Ts_self a 8 (.pointer (some ⟨w.heap.size, 0, none⟩)) (by rw [Hsz.out]; decide)
            exact ⟨b0, b2, b3, b4, b5, b8, b9, b10, b11, b14, b15, b16, b17, true, false, g0, g5, g11, w.heap.size, by rfl, Hd.out, (ts_size _ _ _).trans Hsz.out, ⟨(tn 0 (by decide)).trans t0, (tn 1 (by decide)).trans t1, (tn 2 (by decide)).trans t2, (tn 3 (by decide)).trans t3, (tn 4 (by decide)).trans t4, (tn 5 (by decide)).trans t5, (tn 6 (by decide)).trans t6, (tn 7 (by decide)).trans t7, (tn 67 (by decide)).trans t67, (tn 25 (by decide)).trans t25, (tn 31 (by decide)).trans t31, (tn 37 (by decide)).trans t37⟩,
              fun h => ⟨(tn 24 (by decide)).trans (f0 h).1, fun _ => ((f0 h).2 rfl).alloc _⟩, fun h => (tn 26 (by decide)).trans (f2 h), fun h => ⟨(f3 h).1, (tn 27 (by decide)).trans (f3 h).2⟩, fun h => ⟨(f4 h).1, (tn 28 (by decide)).trans (f4 h).2⟩, fun h => ⟨(tn 29 (by decide)).trans (f5 h).1, fun _ => ((f5 h).2 rfl).alloc _⟩, fun h => (tn 32 (by decide)).trans (f8 h), fun h => ⟨(f9 h).1, (tn 33 (by decide)).trans (f9 h).2⟩, fun h => ⟨(f10 h).1, (tn 34 (by decide)).trans (f10 h).2⟩, fun h => ⟨(tn 35 (by decide)).trans (f11 h).1, fun _ => ((f11 h).2 rfl).alloc _⟩, fun h => (tn 38 (by decide)).trans (f14 h), fun h => ⟨(f15 h).1, (tn 39 (by decide)).trans (f15 h).2⟩, fun h => ⟨(f16 h).1, (tn 40 (by decide)).trans (f16 h).2⟩, fun h => ⟨(f17 h).1, (tn 41 (by decide)).trans (f17 h).2⟩, fun _ => ⟨ts, hb.size, fun _ => Blk.new w _ _⟩, fun h => (by cases h), hb.alloc hb.size _⟩
          · skip
            have hbi : b19 = false := by simpa using hun
            subst hbi
            obtain rfl := (Option.some.inj hoj).symm
            have dx : b18 = true := by simpa using hall ⟨18, .data⟩ (by simp) (by rfl)
            have db : b17 = true := by simpa using hall ⟨17, .data⟩ (by simp) (by rfl)
            subst dx db
            obtain ⟨⟨e4, e10, e16⟩, ub⟩ := f17 rfl
            subst e4
            subst e10
            subst e16
            have e3 := (f4 rfl).1
            subst e3
            obtain ⟨⟨e0, e2⟩, u3⟩ := f3 rfl
            subst e0 e2
            have e9 := (f10 rfl).1
            subst e9
            obtain ⟨⟨e5, e8⟩, u9⟩ := f9 rfl
            subst e5 e8
            have e15 := (f16 rfl).1
            subst e15
            obtain ⟨⟨e11, e14⟩, u15⟩ := f15 rfl
            subst e11 e14
            obtain ⟨ux, hgx, hB⟩ := f18 rfl
            replace hB := hB rfl
            have eb : (a.tmps[41]?).getD undef = _ := ub
            have ex : (a.tmps[8]?).getD undef = _ := ux
            have c0 := hB.cell 0
            have r0 := hB.frozen 0
            have c1 := hB.cell 1
            have r1 := hB.frozen 1
            have c2 := hB.cell 2
            have r2 := hB.frozen 2
            have c3 := hB.cell 3
            have r3 := hB.frozen 3
            have c4 := hB.cell 4
            have r4 := hB.frozen 4
            have hB2 : Blk (((((w.setCell ⟨g18, 0, none⟩ (.int .i64 1)).setCell ⟨g18, 1, none⟩ (str (so p))).setCell ⟨g18, 2, none⟩ (str (io q))).setCell ⟨g18, 3, none⟩ (str (bo r))).setCell ⟨g18, 4, none⟩ (.int .i64 0)) g18 55 #[.int .i64 1, str (so p), str (io q), str (bo r), .int .i64 0] := (((((hB.set_ 0 _).set_ 1 _).set_ 2 _).set_ 3 _).set_ 4 _)
            have Hsz := Lib.hid hsz
            have Hd := Lib.hid hd
            clear hsz hd
            refine wpOp_of rfl rfl ?_
            intro K' hK'
            simp at c0 c1 c2 c3 c4
            go_simp
            refine hK' _ _ ?_
            show InvA _ _ _ _ _ _ _ _ _ _ a (((((w.setCell ⟨g18, 0, none⟩ (.int .i64 1)).setCell ⟨g18, 1, none⟩ (str (so p))).setCell ⟨g18, 2, none⟩ (str (io q))).setCell ⟨g18, 3, none⟩ (str (bo r))).setCell ⟨g18, 4, none⟩ (.int .i64 0))
            exact ⟨true, true, true, true, true, true, true, true, true, true, true, true, true, true, true, g0, g5, g11, g18, by rfl, Hd.out, Hsz.out, ⟨t0, t1, t2, t3, t4, t5, t6, t7, t67, t25, t31, t37⟩, fun _ => ⟨(f0 rfl).1, fun h => (by cases h)⟩, f2, f3, f4, fun _ => ⟨(f5 rfl).1, fun h => (by cases h)⟩, f8, f9, f10, fun _ => ⟨(f11 rfl).1, fun h => (by cases h)⟩, f14, f15, f16, f17, fun _ => ⟨ux, hgx, fun h => (by cases h)⟩, fun _ => ⟨rfl, hB2⟩, (((((hb.setCell hgx _).setCell hgx _).setCell hgx _).setCell hgx _).setCell hgx _)⟩
        · exact ⟨false, false, false, false, false, false, false, false, false, false, false, false, false, false, false, 0, 0, 0, 0, by kernel_rfl, by kernel_rfl, by kernel_rfl, ⟨by kernel_rfl, by kernel_rfl, by kernel_rfl, by kernel_rfl, by kernel_rfl, by kernel_rfl, by kernel_rfl, by kernel_rfl, by kernel_rfl, by kernel_rfl, by kernel_rfl, by kernel_rfl⟩, by simp, by simp, by simp, by simp, by simp, by simp, by simp, by simp, by simp, by simp, by simp, by simp, by simp, by simp, by simp, hS0⟩
        · exact Nat.le_of_eq (by kernel_rfl)
      · have hi1 : (k : Int) < (n : Int) := by omega
        have hi2 : ¬ (k : Int) < (lim : Int) := by omega
        go_wp2_with fail
        go_ret
        exact ⟨_, rfl, l, by rw [Hcl.out]; exact Ho.out, by rw [Hcl.out]; omega, Hdr.out, Hbe.out⟩
    · have hi1 : ¬ (k : Int) < (n : Int) := by omega
      go_wp2_with fail
      go_ret
      exact ⟨_, rfl, l, by rw [Hcl.out]; exact Ho.out, by rw [Hcl.out]; omega, Hdr.out, Hbe.out⟩
end Go.Proofs.Ytgckihglgnbaoaa
