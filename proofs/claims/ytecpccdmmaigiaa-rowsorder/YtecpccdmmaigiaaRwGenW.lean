/- Sorted tables: Changes at every slice of numbers. -/
import Derived.Test.YtecpccdmmaigiaaRwGen
namespace Go.Proofs.Ytecpccdmmaigiaa
set_option linter.unusedVariables false
set_option linter.unusedSimpArgs false
open Go.RowKit
/-- Changes that are drawn. -/
def Drawn (cs : List Rw) : Prop := ∀ r ∈ cs, ∃ p q, p < 8 ∧ q < 4 ∧ r = (⟨kt p, vt q⟩ : Rw)
def ChL (n lim : Nat) (w : World) (gk : Nat) (s5 s6 : Value) (wr : World) : Prop :=
  ∃ (k : Nat) (cs : List Rw), s6 = .int .i64 (k : Int) ∧ k ≤ lim ∧ k ≤ n ∧ gk = lim - k ∧ cs.length = k ∧ Drawn cs ∧ wr.ownsRow w.heap.size 40 2 s5 k (pcR cs) ∧ Below w.heap.size w wr
set_option maxHeartbeats 8000000 in
set_option maxRecDepth 100000 in
theorem changes_any (A : Option Addr) (n c B lim : Nat) (w : World) (hx : IntsAt w B A n c) (hB : B ≤ w.heap.size) (hlim : lim ≤ 60) :
    Calls Try.prog 25 #[.slice A n c, .int .i64 (lim : Int)] w fun e w' => ∃ v cs, e = .returned v ∧ w'.ownsRow w.heap.size 40 2 v cs.length (pcR cs) ∧ cs.length = min n lim ∧ Drawn cs ∧ Below w.heap.size w w' := by
  have Hx := Lib.hid hx
  clear hx
  go_enter Try.func25, Try.ntmps25
  go_wp2_with fail
  go_loopg [5, 6] lim (ChL n lim w)
  case atStart => exact ⟨0, [], rfl, Nat.zero_le _, Nat.zero_le _, by omega, rfl, by simp [Drawn], World.ownsRow_nil _ _ _ _, Below.refl _ _⟩
  case round =>
    obtain ⟨k, cs, rfl, hk, hkn', hgk, hcl, hdr, ho, hbe⟩ := hrel
    have Hgk := Lib.hid hgk
    have Ho := Lib.hid ho
    have Hbe := Lib.hid hbe
    have Hcl := Lib.hid hcl
    have Hdr := Lib.hid hdr
    have hszw := hbe.size
    clear hgk ho hbe hcl hdr
    by_cases hkn : k < n
    · by_cases hkl : k < lim
      · have hi1 : (k : Int) < (n : Int) := by omega
        have hi2 : (k : Int) < (lim : Int) := by omega
        obtain ⟨b, off, z, hA, hbB, hc0, hz1, hz2⟩ := (Hx.out.below (Hbe.out.mono hB)).at hkn
        subst hA
        have hbw : b < wr.heap.size := by omega
        obtain ⟨p, hp, hp8⟩ : ∃ p : Nat, z % 8 = (p : Int) ∧ p < 8 := ⟨(z % 8).toNat, by have := Int.emod_nonneg z (show (8 : Int) ≠ 0 by decide); omega, by have := Int.emod_nonneg z (show (8 : Int) ≠ 0 by decide); have := Int.emod_lt_of_pos z (show (0 : Int) < 8 by decide); omega⟩
        obtain ⟨q, hq, hq4⟩ : ∃ q : Nat, (z.tdiv 8) % 4 = (q : Int) ∧ q < 4 := ⟨((z.tdiv 8) % 4).toNat, by have := Int.emod_nonneg (z.tdiv 8) (show (4 : Int) ≠ 0 by decide); omega, by have := Int.emod_nonneg (z.tdiv 8) (show (4 : Int) ≠ 0 by decide); have := Int.emod_lt_of_pos (z.tdiv 8) (show (0 : Int) < 4 by decide); omega⟩
        have Hp := Lib.hid hp
        have Hq := Lib.hid hq
        have hpi : (p : Int) < 8 := by omega
        have hqi : (q : Int) < 4 := by omega
        have hwq : IntKind.i64.wrap (z.tdiv 8) = z.tdiv 8 := by
          have h1 := Int.mul_tdiv_add_tmod z 8
          have h2 := (tmod_pick z 8 (by decide)).2.2
          exact IntWalk.i64_in _ (by omega)
        clear hp hq
        go_wp2_with fail
        refine region_S (fun w' => Below wr.heap.size wr w') [] (by kernel_rfl) ?_
        have hS0 : Below wr.heap.size wr wr.drew := (Below.refl _ _).drew
        refine anyS_take 1 (v := .slice (some ⟨b, off, none⟩) n c) rfl (by kernel_rfl) (by kernel_rfl) (by kernel_rfl) (by kernel_rfl) (fun _ _ _ h => h) (.inl ⟨by kernel_rfl, fun w' hS' => by kernel_rfl⟩) hS0 ?_
        refine anyS_take 2 (v := .int .i64 (k : Int)) rfl (by kernel_rfl) (by kernel_rfl) (by kernel_rfl) (by kernel_rfl) (fun _ _ _ h => h) (.inl ⟨by kernel_rfl, fun w' hS' => by kernel_rfl⟩) hS0 ?_
        refine anyS_take 3 (v := .pointer (some ⟨b, off + k, none⟩)) rfl (by kernel_rfl) (by kernel_rfl) (by kernel_rfl) (by kernel_rfl) (fun _ _ _ h => h) (.inl ⟨by kernel_rfl, fun w' hS' => by go_simp⟩) hS0 ?_
        refine anyS_take 4 (v := .int .i64 z) rfl (by kernel_rfl) (by kernel_rfl) (by kernel_rfl) (by kernel_rfl) (fun _ _ _ h => h) (.inl ⟨by kernel_rfl, fun w' hS' => by have s1 := (hS'.cell hbw).trans hc0; go_simp⟩) hS0 ?_
        refine anyS_take 9 (v := .slice (some ⟨b, off, none⟩) n c) rfl (by kernel_rfl) (by kernel_rfl) (by kernel_rfl) (by kernel_rfl) (fun _ _ _ h => h) (.inl ⟨by kernel_rfl, fun w' hS' => by kernel_rfl⟩) hS0 ?_
        refine anyS_take 10 (v := .int .i64 (k : Int)) rfl (by kernel_rfl) (by kernel_rfl) (by kernel_rfl) (by kernel_rfl) (fun _ _ _ h => h) (.inl ⟨by kernel_rfl, fun w' hS' => by kernel_rfl⟩) hS0 ?_
        refine anyS_take 11 (v := .pointer (some ⟨b, off + k, none⟩)) rfl (by kernel_rfl) (by kernel_rfl) (by kernel_rfl) (by kernel_rfl) (fun _ _ _ h => h) (.inl ⟨by kernel_rfl, fun w' hS' => by go_simp⟩) hS0 ?_
        refine anyS_take 12 (v := .int .i64 z) rfl (by kernel_rfl) (by kernel_rfl) (by kernel_rfl) (by kernel_rfl) (fun _ _ _ h => h) (.inl ⟨by kernel_rfl, fun w' hS' => by have s1 := (hS'.cell hbw).trans hc0; go_simp⟩) hS0 ?_
        refine anyS_take 13 (v := .int .i64 (z.tdiv 8)) rfl (by kernel_rfl) (by kernel_rfl) (by kernel_rfl) (by kernel_rfl) (fun _ _ _ h => h) (.inl ⟨by kernel_rfl, fun w' hS' => by go_simp⟩) hS0 ?_
        refine anyS_inv (I := InvC (.slice (some ⟨b, off, none⟩) n c) (.int .i64 (lim : Int)) u5 (.int .i64 (k : Int)) z p q wr) ?_ ?_ ?_ _ _ _ _ ?_ ?_
        · rintro l a w ⟨b0, b5, b6, b7, b8, b14, b15, b16, b17, b18, b19, g0, g8, g18, rfl, hd, hsz, ⟨t0, t1, t2, t3, t4, t5, t6, t41, t23, t32⟩, f0, f5, f6, f7, f8, f14, f15, f16, f17, f18, f19, hb⟩
          exact hb
        · rintro l a w5 ⟨b0, b5, b6, b7, b8, b14, b15, b16, b17, b18, b19, g0, g8, g18, rfl, hd, hsz, ⟨t0, t1, t2, t3, t4, t5, t6, t41, t23, t32⟩, f0, f5, f6, f7, f8, f14, f15, f16, f17, f18, f19, hb⟩ hr
          have q0 : b0 = true := by
            cases b0 with
            | true => rfl
            | false =>
              have hc := congrArg (fun r : List Nat => r.contains 0) hr
              have ht : true = false := Eq.trans (by kernel_rfl) hc
              cases ht
          subst q0
          have q5 : b5 = true := by
            cases b5 with
            | true => rfl
            | false =>
              have hc := congrArg (fun r : List Nat => r.contains 5) hr
              have ht : true = false := Eq.trans (by kernel_rfl) hc
              cases ht
          subst q5
          have q6 : b6 = true := by
            cases b6 with
            | true => rfl
            | false =>
              have hc := congrArg (fun r : List Nat => r.contains 6) hr
              have ht : true = false := Eq.trans (by kernel_rfl) hc
              cases ht
          subst q6
          have q7 : b7 = true := by
            cases b7 with
            | true => rfl
            | false =>
              have hc := congrArg (fun r : List Nat => r.contains 7) hr
              have ht : true = false := Eq.trans (by kernel_rfl) hc
              cases ht
          subst q7
          have q8 : b8 = true := by
            cases b8 with
            | true => rfl
            | false =>
              have hc := congrArg (fun r : List Nat => r.contains 8) hr
              have ht : true = false := Eq.trans (by kernel_rfl) hc
              cases ht
          subst q8
          have q14 : b14 = true := by
            cases b14 with
            | true => rfl
            | false =>
              have hc := congrArg (fun r : List Nat => r.contains 14) hr
              have ht : true = false := Eq.trans (by kernel_rfl) hc
              cases ht
          subst q14
          have q15 : b15 = true := by
            cases b15 with
            | true => rfl
            | false =>
              have hc := congrArg (fun r : List Nat => r.contains 15) hr
              have ht : true = false := Eq.trans (by kernel_rfl) hc
              cases ht
          subst q15
          have q16 : b16 = true := by
            cases b16 with
            | true => rfl
            | false =>
              have hc := congrArg (fun r : List Nat => r.contains 16) hr
              have ht : true = false := Eq.trans (by kernel_rfl) hc
              cases ht
          subst q16
          have q17 : b17 = true := by
            cases b17 with
            | true => rfl
            | false =>
              have hc := congrArg (fun r : List Nat => r.contains 17) hr
              have ht : true = false := Eq.trans (by kernel_rfl) hc
              cases ht
          subst q17
          have q18 : b18 = true := by
            cases b18 with
            | true => rfl
            | false =>
              have hc := congrArg (fun r : List Nat => r.contains 18) hr
              have ht : true = false := Eq.trans (by kernel_rfl) hc
              cases ht
          subst q18
          have q19 : b19 = true := by
            cases b19 with
            | true => rfl
            | false =>
              have hc := congrArg (fun r : List Nat => r.contains 19) hr
              have ht : true = false := Eq.trans (by kernel_rfl) hc
              cases ht
          subst q19
          obtain ⟨u7, hg18, -⟩ := f18 rfl
          obtain ⟨-, hB⟩ := f19 rfl
          obtain ⟨x0,x1,x2,x3,x4,x5,x6,x7,x8,x9,x10,x11,x12,x13,x14,x15,x16,x17,x18,x19,x20,x21,x22,x23,x24,x25,x26,x27,x28,x29,x30,x31,x32,x33,x34,x35,x36,x37,x38,x39,x40,x41, ht⟩ := tmps42 hsz
          obtain ⟨tm, df⟩ := a
          replace ht : tm = _ := ht
          replace hd : df = [] := hd
          subst ht hd
          replace t0 : x0 = _ := t0
          replace t1 : x1 = _ := t1
          replace t2 : x2 = _ := t2
          replace t3 : x3 = _ := t3
          replace t4 : x4 = _ := t4
          replace t5 : x5 = _ := t5
          replace t6 : x6 = _ := t6
          replace t41 : x41 = _ := t41
          replace u7 : x7 = _ := u7
          subst t0 t1 t2 t3 t4 t6 t41 u7
          subst x5
          have c0 : w5.cell? ⟨g18, 0, none⟩ = some (str (kt p)) := hB.cell 0
          have c1 : w5.cell? ⟨g18, 1, none⟩ = some (str (vt q)) := hB.cell 1
          have hgl := hB.lt
          have how := rowR_below Ho.out hb
          have hsz5 := hb.size
          obtain ⟨v', wf, hrun, ho', hg'⟩ := run_app_row w5 w.heap.size k u5 cs ⟨kt p, vt q⟩ how (by omega) (by omega)
          have Hrun := Lib.hid hrun
          have Ho' := Lib.hid ho'
          have Hb' := Lib.hid (below_own ((Hbe.out.trans (hb.mono hszw)).alloc (by omega) _) hg' (how.alloc _) (Nat.le_refl _) (by simp; omega))
          have Hdr' := Lib.hid (show Drawn (cs ++ [⟨kt p, vt q⟩]) from fun r hr => by
            rcases List.mem_append.1 hr with hr | hr
            · exact Hdr.out r hr
            · exact ⟨p, q, hp8, hq4, by simpa using hr⟩)
          have Hcl' := Lib.hid (show (cs ++ [(⟨kt p, vt q⟩ : Rw)]).length = k + 1 by rw [List.length_append, Hcl.out]; rfl)
          clear hrun ho' hg' how hB f0 f5 f6 f7 f8 f14 f15 f16 f17 f18 f19 hsz t23 t32 hr
          generalize kt p = key at *
          generalize vt q = val at *
          go_wp2_with (first | (at_builtin; refine rw_app rfl _ _ _ rfl _ _ (by rfl) (by rfl) Hrun.out ?_; clear Hrun) | fail)
          go_roundg (lim - (k + 1))
          case measure => have := Hgk.out; omega
          case rel => exact ⟨k + 1, _, by go_num, by omega, by omega, rfl, Hcl'.out, Hdr'.out, Ho'.out, Hb'.out⟩
        · intro l a w i h hi
          obtain ⟨b0, b5, b6, b7, b8, b14, b15, b16, b17, b18, b19, g0, g8, g18, rfl, hd, hsz, ⟨t0, t1, t2, t3, t4, t5, t6, t41, t23, t32⟩, f0, f5, f6, f7, f8, f14, f15, f16, f17, f18, f19, hb⟩ := h
          obtain ⟨hun, oj, hoj, hall⟩ := mem_ready.1 hi
          have hi20 : i < 20 := (Array.getElem?_eq_some_iff.1 hoj).1
          rcases (by omega : i = 0 ∨ i = 1 ∨ i = 2 ∨ i = 3 ∨ i = 4 ∨ i = 5 ∨ i = 6 ∨ i = 7 ∨ i = 8 ∨ i = 9 ∨ i = 10 ∨ i = 11 ∨ i = 12 ∨ i = 13 ∨ i = 14 ∨ i = 15 ∨ i = 16 ∨ i = 17 ∨ i = 18 ∨ i = 19) with rfl | rfl | rfl | rfl | rfl | rfl | rfl | rfl | rfl | rfl | rfl | rfl | rfl | rfl | rfl | rfl | rfl | rfl | rfl | rfl
          · skip
            have hbi : b0 = false := by simpa using hun
            subst hbi
            have h19 : b19 = false := by
              cases b19 with
              | false => rfl
              | true => have := (f19 rfl).1; simp at this
            subst h19
            have Hsz := Lib.hid hsz
            have Hd := Lib.hid hd
            clear hsz hd
            refine wpOp_of rfl rfl ?_
            intro K' hK'
            go_simp
            refine hK' _ _ ?_
            show InvC _ _ _ _ _ _ _ _ _ (a.put (some 19) (.slice (some ⟨w.heap.size, 0, none⟩) 8 8)) (w.alloc (.cells ktC 9))
            have tn := fun j (h : j ≠ 19) => T_ne a 19 j (.slice (some ⟨w.heap.size, 0, none⟩) 8 8) h
            have ts := T_self a 19 (.slice (some ⟨w.heap.size, 0, none⟩) 8 8) (by rw [Hsz.out]; decide)
            exact ⟨true, b5, b6, b7, b8, b14, b15, b16, b17, b18, false, w.heap.size, g8, g18, by rfl, Hd.out, (put_size _ _ _).trans Hsz.out, ⟨(tn 0 (by decide)).trans t0, (tn 1 (by decide)).trans t1, (tn 2 (by decide)).trans t2, (tn 3 (by decide)).trans t3, (tn 4 (by decide)).trans t4, (tn 5 (by decide)).trans t5, (tn 6 (by decide)).trans t6, (tn 41 (by decide)).trans t41, (tn 23 (by decide)).trans t23, (tn 32 (by decide)).trans t32⟩,
              fun _ => ⟨ts, fun _ => Blk.new w _ _⟩, fun h => (tn 24 (by decide)).trans (f5 h), fun h => absurd (f6 h).1.1 (by simp), fun h => ⟨(f7 h).1, (tn 26 (by decide)).trans (f7 h).2⟩, fun h => ⟨(tn 27 (by decide)).trans (f8 h).1, fun _ => ((f8 h).2 rfl).alloc _⟩, fun h => (tn 33 (by decide)).trans (f14 h), fun h => ⟨(f15 h).1, (tn 34 (by decide)).trans (f15 h).2⟩, fun h => ⟨(f16 h).1, (tn 35 (by decide)).trans (f16 h).2⟩, fun h => ⟨(f17 h).1, (tn 36 (by decide)).trans (f17 h).2⟩, fun h => ⟨(tn 7 (by decide)).trans (f18 h).1, (f18 h).2.1, fun _ => ((f18 h).2.2 rfl).alloc _⟩, fun h => (by cases h), hb.alloc hb.size _⟩
          · simp at hun
          · simp at hun
          · simp at hun
          · simp at hun
          · skip
            have hbi : b5 = false := by simpa using hun
            subst hbi
            have h19 : b19 = false := by
              cases b19 with
              | false => rfl
              | true => have := (f19 rfl).1; simp at this
            subst h19
            have e23 : (a.tmps[23]?).getD undef = .int .i64 z := t23
            have Hsz := Lib.hid hsz
            have Hd := Lib.hid hd
            clear hsz hd
            refine wpOp_of rfl rfl ?_
            intro K' hK'
            go_simp
            refine (picked_q z 8 w (by decide) (by decide)).mono ?_
            rintro e w1 ⟨rfl, hw1⟩
            obtain rfl : w = w1 := hw1.symm
            rw [Hp.out]
            refine hK' _ _ ?_
            show InvC _ _ _ _ _ _ _ _ _ (a.put (some 24) (.int .i64 (p : Int))) w
            have tn := fun j (h : j ≠ 24) => T_ne a 24 j (.int .i64 (p : Int)) h
            have ts := T_self a 24 (.int .i64 (p : Int)) (by rw [Hsz.out]; decide)
            exact ⟨b0, true, b6, b7, b8, b14, b15, b16, b17, b18, false, g0, g8, g18, by rfl, Hd.out, (put_size _ _ _).trans Hsz.out, ⟨(tn 0 (by decide)).trans t0, (tn 1 (by decide)).trans t1, (tn 2 (by decide)).trans t2, (tn 3 (by decide)).trans t3, (tn 4 (by decide)).trans t4, (tn 5 (by decide)).trans t5, (tn 6 (by decide)).trans t6, (tn 41 (by decide)).trans t41, (tn 23 (by decide)).trans t23, (tn 32 (by decide)).trans t32⟩,
              fun h => ⟨(tn 19 (by decide)).trans (f0 h).1, fun _ => ((f0 h).2 rfl)⟩, fun _ => ts, fun h => absurd (f6 h).1.2 (by simp), fun h => ⟨(f7 h).1, (tn 26 (by decide)).trans (f7 h).2⟩, fun h => ⟨(tn 27 (by decide)).trans (f8 h).1, fun _ => ((f8 h).2 rfl)⟩, fun h => (tn 33 (by decide)).trans (f14 h), fun h => ⟨(f15 h).1, (tn 34 (by decide)).trans (f15 h).2⟩, fun h => ⟨(f16 h).1, (tn 35 (by decide)).trans (f16 h).2⟩, fun h => ⟨(f17 h).1, (tn 36 (by decide)).trans (f17 h).2⟩, fun h => ⟨(tn 7 (by decide)).trans (f18 h).1, (f18 h).2.1, fun _ => ((f18 h).2.2 rfl)⟩, fun h => (by cases h), hb⟩
          · skip
            have hbi : b6 = false := by simpa using hun
            subst hbi
            obtain rfl := (Option.some.inj hoj).symm
            have d0 : b0 = true := by simpa using hall ⟨0, .data⟩ (by simp) (by rfl)
            have d5 : b5 = true := by simpa using hall ⟨5, .data⟩ (by simp) (by rfl)
            subst d0
            subst d5
            have h19 : b19 = false := by
              cases b19 with
              | false => rfl
              | true => have := (f19 rfl).1; simp at this
            subst h19
            have e19 : (a.tmps[19]?).getD undef = _ := (f0 rfl).1
            have e24 : (a.tmps[24]?).getD undef = _ := f5 rfl
            have Hsz := Lib.hid hsz
            have Hd := Lib.hid hd
            clear hsz hd
            refine wpOp_of rfl rfl ?_
            intro K' hK'
            go_simp
            refine hK' _ _ ?_
            show InvC _ _ _ _ _ _ _ _ _ (a.put (some 25) (.pointer (some ⟨g0, p, none⟩))) w
            have tn := fun j (h : j ≠ 25) => T_ne a 25 j (.pointer (some ⟨g0, p, none⟩)) h
            have ts := T_self a 25 (.pointer (some ⟨g0, p, none⟩)) (by rw [Hsz.out]; decide)
            exact ⟨true, true, true, b7, b8, b14, b15, b16, b17, b18, false, g0, g8, g18, by rfl, Hd.out, (put_size _ _ _).trans Hsz.out, ⟨(tn 0 (by decide)).trans t0, (tn 1 (by decide)).trans t1, (tn 2 (by decide)).trans t2, (tn 3 (by decide)).trans t3, (tn 4 (by decide)).trans t4, (tn 5 (by decide)).trans t5, (tn 6 (by decide)).trans t6, (tn 41 (by decide)).trans t41, (tn 23 (by decide)).trans t23, (tn 32 (by decide)).trans t32⟩,
              fun h => ⟨(tn 19 (by decide)).trans (f0 h).1, fun _ => ((f0 h).2 rfl)⟩, fun h => (tn 24 (by decide)).trans (f5 h), fun _ => ⟨⟨rfl, rfl⟩, ts⟩, fun h => absurd (f7 h).1 (by simp), fun h => ⟨(tn 27 (by decide)).trans (f8 h).1, fun _ => ((f8 h).2 rfl)⟩, fun h => (tn 33 (by decide)).trans (f14 h), fun h => ⟨(f15 h).1, (tn 34 (by decide)).trans (f15 h).2⟩, fun h => ⟨(f16 h).1, (tn 35 (by decide)).trans (f16 h).2⟩, fun h => ⟨(f17 h).1, (tn 36 (by decide)).trans (f17 h).2⟩, fun h => ⟨(tn 7 (by decide)).trans (f18 h).1, (f18 h).2.1, fun _ => ((f18 h).2.2 rfl)⟩, fun h => (by cases h), hb⟩
          · skip
            have hbi : b7 = false := by simpa using hun
            subst hbi
            obtain rfl := (Option.some.inj hoj).symm
            have d6 : b6 = true := by simpa using hall ⟨6, .data⟩ (by simp) (by rfl)
            subst d6
            have h19 : b19 = false := by
              cases b19 with
              | false => rfl
              | true => have := (f19 rfl).1; simp at this
            subst h19
            have e25 : (a.tmps[25]?).getD undef = _ := (f6 rfl).2
            have ec := (((f0 (f6 rfl).1.1).2 rfl).cell p).trans (ktC_at p hp8)
            have Hsz := Lib.hid hsz
            have Hd := Lib.hid hd
            clear hsz hd
            refine wpOp_of rfl rfl ?_
            intro K' hK'
            go_simp
            refine hK' _ _ ?_
            show InvC _ _ _ _ _ _ _ _ _ (a.put (some 26) (str (kt p))) w
            have tn := fun j (h : j ≠ 26) => T_ne a 26 j (str (kt p)) h
            have ts := T_self a 26 (str (kt p)) (by rw [Hsz.out]; decide)
            exact ⟨b0, b5, true, true, b8, b14, b15, b16, b17, b18, false, g0, g8, g18, by rfl, Hd.out, (put_size _ _ _).trans Hsz.out, ⟨(tn 0 (by decide)).trans t0, (tn 1 (by decide)).trans t1, (tn 2 (by decide)).trans t2, (tn 3 (by decide)).trans t3, (tn 4 (by decide)).trans t4, (tn 5 (by decide)).trans t5, (tn 6 (by decide)).trans t6, (tn 41 (by decide)).trans t41, (tn 23 (by decide)).trans t23, (tn 32 (by decide)).trans t32⟩,
              fun h => ⟨(tn 19 (by decide)).trans (f0 h).1, fun _ => ((f0 h).2 rfl)⟩, fun h => (tn 24 (by decide)).trans (f5 h), fun h => ⟨(f6 h).1, (tn 25 (by decide)).trans (f6 h).2⟩, fun _ => ⟨rfl, ts⟩, fun h => ⟨(tn 27 (by decide)).trans (f8 h).1, fun _ => ((f8 h).2 rfl)⟩, fun h => (tn 33 (by decide)).trans (f14 h), fun h => ⟨(f15 h).1, (tn 34 (by decide)).trans (f15 h).2⟩, fun h => ⟨(f16 h).1, (tn 35 (by decide)).trans (f16 h).2⟩, fun h => absurd (f17 h).1.1 (by simp), fun h => ⟨(tn 7 (by decide)).trans (f18 h).1, (f18 h).2.1, fun _ => ((f18 h).2.2 rfl)⟩, fun h => (by cases h), hb⟩
          · skip
            have hbi : b8 = false := by simpa using hun
            subst hbi
            have h19 : b19 = false := by
              cases b19 with
              | false => rfl
              | true => have := (f19 rfl).1; simp at this
            subst h19
            have Hsz := Lib.hid hsz
            have Hd := Lib.hid hd
            clear hsz hd
            refine wpOp_of rfl rfl ?_
            intro K' hK'
            go_simp
            refine hK' _ _ ?_
            show InvC _ _ _ _ _ _ _ _ _ (a.put (some 27) (.slice (some ⟨w.heap.size, 0, none⟩) 4 4)) (w.alloc (.cells vtC 9))
            have tn := fun j (h : j ≠ 27) => T_ne a 27 j (.slice (some ⟨w.heap.size, 0, none⟩) 4 4) h
            have ts := T_self a 27 (.slice (some ⟨w.heap.size, 0, none⟩) 4 4) (by rw [Hsz.out]; decide)
            exact ⟨b0, b5, b6, b7, true, b14, b15, b16, b17, b18, false, g0, w.heap.size, g18, by rfl, Hd.out, (put_size _ _ _).trans Hsz.out, ⟨(tn 0 (by decide)).trans t0, (tn 1 (by decide)).trans t1, (tn 2 (by decide)).trans t2, (tn 3 (by decide)).trans t3, (tn 4 (by decide)).trans t4, (tn 5 (by decide)).trans t5, (tn 6 (by decide)).trans t6, (tn 41 (by decide)).trans t41, (tn 23 (by decide)).trans t23, (tn 32 (by decide)).trans t32⟩,
              fun h => ⟨(tn 19 (by decide)).trans (f0 h).1, fun _ => ((f0 h).2 rfl).alloc _⟩, fun h => (tn 24 (by decide)).trans (f5 h), fun h => ⟨(f6 h).1, (tn 25 (by decide)).trans (f6 h).2⟩, fun h => ⟨(f7 h).1, (tn 26 (by decide)).trans (f7 h).2⟩, fun _ => ⟨ts, fun _ => Blk.new w _ _⟩, fun h => (tn 33 (by decide)).trans (f14 h), fun h => absurd (f15 h).1.1 (by simp), fun h => ⟨(f16 h).1, (tn 35 (by decide)).trans (f16 h).2⟩, fun h => ⟨(f17 h).1, (tn 36 (by decide)).trans (f17 h).2⟩, fun h => ⟨(tn 7 (by decide)).trans (f18 h).1, (f18 h).2.1, fun _ => ((f18 h).2.2 rfl).alloc _⟩, fun h => (by cases h), hb.alloc hb.size _⟩
          · simp at hun
          · simp at hun
          · simp at hun
          · simp at hun
          · simp at hun
          · skip
            have hbi : b14 = false := by simpa using hun
            subst hbi
            have h19 : b19 = false := by
              cases b19 with
              | false => rfl
              | true => have := (f19 rfl).1; simp at this
            subst h19
            have e32 : (a.tmps[32]?).getD undef = .int .i64 (z.tdiv 8) := t32
            have Hsz := Lib.hid hsz
            have Hd := Lib.hid hd
            clear hsz hd
            refine wpOp_of rfl rfl ?_
            intro K' hK'
            go_simp
            refine (picked_q (z.tdiv 8) 4 w (by decide) (by decide)).mono ?_
            rintro e w1 ⟨rfl, hw1⟩
            obtain rfl : w = w1 := hw1.symm
            rw [Hq.out]
            refine hK' _ _ ?_
            show InvC _ _ _ _ _ _ _ _ _ (a.put (some 33) (.int .i64 (q : Int))) w
            have tn := fun j (h : j ≠ 33) => T_ne a 33 j (.int .i64 (q : Int)) h
            have ts := T_self a 33 (.int .i64 (q : Int)) (by rw [Hsz.out]; decide)
            exact ⟨b0, b5, b6, b7, b8, true, b15, b16, b17, b18, false, g0, g8, g18, by rfl, Hd.out, (put_size _ _ _).trans Hsz.out, ⟨(tn 0 (by decide)).trans t0, (tn 1 (by decide)).trans t1, (tn 2 (by decide)).trans t2, (tn 3 (by decide)).trans t3, (tn 4 (by decide)).trans t4, (tn 5 (by decide)).trans t5, (tn 6 (by decide)).trans t6, (tn 41 (by decide)).trans t41, (tn 23 (by decide)).trans t23, (tn 32 (by decide)).trans t32⟩,
              fun h => ⟨(tn 19 (by decide)).trans (f0 h).1, fun _ => ((f0 h).2 rfl)⟩, fun h => (tn 24 (by decide)).trans (f5 h), fun h => ⟨(f6 h).1, (tn 25 (by decide)).trans (f6 h).2⟩, fun h => ⟨(f7 h).1, (tn 26 (by decide)).trans (f7 h).2⟩, fun h => ⟨(tn 27 (by decide)).trans (f8 h).1, fun _ => ((f8 h).2 rfl)⟩, fun _ => ts, fun h => absurd (f15 h).1.2 (by simp), fun h => ⟨(f16 h).1, (tn 35 (by decide)).trans (f16 h).2⟩, fun h => ⟨(f17 h).1, (tn 36 (by decide)).trans (f17 h).2⟩, fun h => ⟨(tn 7 (by decide)).trans (f18 h).1, (f18 h).2.1, fun _ => ((f18 h).2.2 rfl)⟩, fun h => (by cases h), hb⟩
          · skip
            have hbi : b15 = false := by simpa using hun
            subst hbi
            obtain rfl := (Option.some.inj hoj).symm
            have d8 : b8 = true := by simpa using hall ⟨8, .data⟩ (by simp) (by rfl)
            have d14 : b14 = true := by simpa using hall ⟨14, .data⟩ (by simp) (by rfl)
            subst d8
            subst d14
            have h19 : b19 = false := by
              cases b19 with
              | false => rfl
              | true => have := (f19 rfl).1; simp at this
            subst h19
            have e27 : (a.tmps[27]?).getD undef = _ := (f8 rfl).1
            have e33 : (a.tmps[33]?).getD undef = _ := f14 rfl
            have Hsz := Lib.hid hsz
            have Hd := Lib.hid hd
            clear hsz hd
            refine wpOp_of rfl rfl ?_
            intro K' hK'
            go_simp
            refine hK' _ _ ?_
            show InvC _ _ _ _ _ _ _ _ _ (a.put (some 34) (.pointer (some ⟨g8, q, none⟩))) w
            have tn := fun j (h : j ≠ 34) => T_ne a 34 j (.pointer (some ⟨g8, q, none⟩)) h
            have ts := T_self a 34 (.pointer (some ⟨g8, q, none⟩)) (by rw [Hsz.out]; decide)
            exact ⟨b0, b5, b6, b7, true, true, true, b16, b17, b18, false, g0, g8, g18, by rfl, Hd.out, (put_size _ _ _).trans Hsz.out, ⟨(tn 0 (by decide)).trans t0, (tn 1 (by decide)).trans t1, (tn 2 (by decide)).trans t2, (tn 3 (by decide)).trans t3, (tn 4 (by decide)).trans t4, (tn 5 (by decide)).trans t5, (tn 6 (by decide)).trans t6, (tn 41 (by decide)).trans t41, (tn 23 (by decide)).trans t23, (tn 32 (by decide)).trans t32⟩,
              fun h => ⟨(tn 19 (by decide)).trans (f0 h).1, fun _ => ((f0 h).2 rfl)⟩, fun h => (tn 24 (by decide)).trans (f5 h), fun h => ⟨(f6 h).1, (tn 25 (by decide)).trans (f6 h).2⟩, fun h => ⟨(f7 h).1, (tn 26 (by decide)).trans (f7 h).2⟩, fun h => ⟨(tn 27 (by decide)).trans (f8 h).1, fun _ => ((f8 h).2 rfl)⟩, fun h => (tn 33 (by decide)).trans (f14 h), fun _ => ⟨⟨rfl, rfl⟩, ts⟩, fun h => absurd (f16 h).1 (by simp), fun h => ⟨(f17 h).1, (tn 36 (by decide)).trans (f17 h).2⟩, fun h => ⟨(tn 7 (by decide)).trans (f18 h).1, (f18 h).2.1, fun _ => ((f18 h).2.2 rfl)⟩, fun h => (by cases h), hb⟩
          · skip
            have hbi : b16 = false := by simpa using hun
            subst hbi
            obtain rfl := (Option.some.inj hoj).symm
            have d15 : b15 = true := by simpa using hall ⟨15, .data⟩ (by simp) (by rfl)
            subst d15
            have h19 : b19 = false := by
              cases b19 with
              | false => rfl
              | true => have := (f19 rfl).1; simp at this
            subst h19
            have e34 : (a.tmps[34]?).getD undef = _ := (f15 rfl).2
            have ec := (((f8 (f15 rfl).1.1).2 rfl).cell q).trans (vtC_at q hq4)
            have Hsz := Lib.hid hsz
            have Hd := Lib.hid hd
            clear hsz hd
            refine wpOp_of rfl rfl ?_
            intro K' hK'
            go_simp
            refine hK' _ _ ?_
            show InvC _ _ _ _ _ _ _ _ _ (a.put (some 35) (str (vt q))) w
            have tn := fun j (h : j ≠ 35) => T_ne a 35 j (str (vt q)) h
            have ts := T_self a 35 (str (vt q)) (by rw [Hsz.out]; decide)
            exact ⟨b0, b5, b6, b7, b8, b14, true, true, b17, b18, false, g0, g8, g18, by rfl, Hd.out, (put_size _ _ _).trans Hsz.out, ⟨(tn 0 (by decide)).trans t0, (tn 1 (by decide)).trans t1, (tn 2 (by decide)).trans t2, (tn 3 (by decide)).trans t3, (tn 4 (by decide)).trans t4, (tn 5 (by decide)).trans t5, (tn 6 (by decide)).trans t6, (tn 41 (by decide)).trans t41, (tn 23 (by decide)).trans t23, (tn 32 (by decide)).trans t32⟩,
              fun h => ⟨(tn 19 (by decide)).trans (f0 h).1, fun _ => ((f0 h).2 rfl)⟩, fun h => (tn 24 (by decide)).trans (f5 h), fun h => ⟨(f6 h).1, (tn 25 (by decide)).trans (f6 h).2⟩, fun h => ⟨(f7 h).1, (tn 26 (by decide)).trans (f7 h).2⟩, fun h => ⟨(tn 27 (by decide)).trans (f8 h).1, fun _ => ((f8 h).2 rfl)⟩, fun h => (tn 33 (by decide)).trans (f14 h), fun h => ⟨(f15 h).1, (tn 34 (by decide)).trans (f15 h).2⟩, fun _ => ⟨rfl, ts⟩, fun h => absurd (f17 h).1.2 (by simp), fun h => ⟨(tn 7 (by decide)).trans (f18 h).1, (f18 h).2.1, fun _ => ((f18 h).2.2 rfl)⟩, fun h => (by cases h), hb⟩
          · skip
            have hbi : b17 = false := by simpa using hun
            subst hbi
            obtain rfl := (Option.some.inj hoj).symm
            have d7 : b7 = true := by simpa using hall ⟨7, .data⟩ (by simp) (by rfl)
            have d16 : b16 = true := by simpa using hall ⟨16, .data⟩ (by simp) (by rfl)
            subst d7
            subst d16
            have h19 : b19 = false := by
              cases b19 with
              | false => rfl
              | true => have := (f19 rfl).1; simp at this
            subst h19
            have e26 : (a.tmps[26]?).getD undef = _ := (f7 rfl).2
            have e35 : (a.tmps[35]?).getD undef = _ := (f16 rfl).2
            have Hsz := Lib.hid hsz
            have Hd := Lib.hid hd
            clear hsz hd
            refine wpOp_of rfl rfl ?_
            intro K' hK'
            go_simp
            refine hK' _ _ ?_
            show InvC _ _ _ _ _ _ _ _ _ (a.put (some 36) (.agg #[str (kt p), str (vt q)])) w
            have tn := fun j (h : j ≠ 36) => T_ne a 36 j (.agg #[str (kt p), str (vt q)]) h
            have ts := T_self a 36 (.agg #[str (kt p), str (vt q)]) (by rw [Hsz.out]; decide)
            exact ⟨b0, b5, b6, true, b8, b14, b15, true, true, b18, false, g0, g8, g18, by rfl, Hd.out, (put_size _ _ _).trans Hsz.out, ⟨(tn 0 (by decide)).trans t0, (tn 1 (by decide)).trans t1, (tn 2 (by decide)).trans t2, (tn 3 (by decide)).trans t3, (tn 4 (by decide)).trans t4, (tn 5 (by decide)).trans t5, (tn 6 (by decide)).trans t6, (tn 41 (by decide)).trans t41, (tn 23 (by decide)).trans t23, (tn 32 (by decide)).trans t32⟩,
              fun h => ⟨(tn 19 (by decide)).trans (f0 h).1, fun _ => ((f0 h).2 rfl)⟩, fun h => (tn 24 (by decide)).trans (f5 h), fun h => ⟨(f6 h).1, (tn 25 (by decide)).trans (f6 h).2⟩, fun h => ⟨(f7 h).1, (tn 26 (by decide)).trans (f7 h).2⟩, fun h => ⟨(tn 27 (by decide)).trans (f8 h).1, fun _ => ((f8 h).2 rfl)⟩, fun h => (tn 33 (by decide)).trans (f14 h), fun h => ⟨(f15 h).1, (tn 34 (by decide)).trans (f15 h).2⟩, fun h => ⟨(f16 h).1, (tn 35 (by decide)).trans (f16 h).2⟩, fun _ => ⟨⟨rfl, rfl⟩, ts⟩, fun h => ⟨(tn 7 (by decide)).trans (f18 h).1, (f18 h).2.1, fun _ => ((f18 h).2.2 rfl)⟩, fun h => (by cases h), hb⟩
          · skip
            have hbi : b18 = false := by simpa using hun
            subst hbi
            have h19 : b19 = false := by
              cases b19 with
              | false => rfl
              | true => have := (f19 rfl).1; simp at this
            subst h19
            have Hsz := Lib.hid hsz
            have Hd := Lib.hid hd
            clear hsz hd
            refine wpOp_of rfl rfl ?_
            intro K' hK'
            go_simp
            refine hK' _ _ ?_
            show InvC _ _ _ _ _ _ _ _ _ (a.put (some 7) (.pointer (some ⟨w.heap.size, 0, none⟩))) (w.alloc (.cells #[.string ⟨#[]⟩, .string ⟨#[]⟩] 40))
            have tn := fun j (h : j ≠ 7) => T_ne a 7 j (.pointer (some ⟨w.heap.size, 0, none⟩)) h
            have ts := T_self a 7 (.pointer (some ⟨w.heap.size, 0, none⟩)) (by rw [Hsz.out]; decide)
            exact ⟨b0, b5, b6, b7, b8, b14, b15, b16, b17, true, false, g0, g8, w.heap.size, by rfl, Hd.out, (put_size _ _ _).trans Hsz.out, ⟨(tn 0 (by decide)).trans t0, (tn 1 (by decide)).trans t1, (tn 2 (by decide)).trans t2, (tn 3 (by decide)).trans t3, (tn 4 (by decide)).trans t4, (tn 5 (by decide)).trans t5, (tn 6 (by decide)).trans t6, (tn 41 (by decide)).trans t41, (tn 23 (by decide)).trans t23, (tn 32 (by decide)).trans t32⟩,
              fun h => ⟨(tn 19 (by decide)).trans (f0 h).1, fun _ => ((f0 h).2 rfl).alloc _⟩, fun h => (tn 24 (by decide)).trans (f5 h), fun h => ⟨(f6 h).1, (tn 25 (by decide)).trans (f6 h).2⟩, fun h => ⟨(f7 h).1, (tn 26 (by decide)).trans (f7 h).2⟩, fun h => ⟨(tn 27 (by decide)).trans (f8 h).1, fun _ => ((f8 h).2 rfl).alloc _⟩, fun h => (tn 33 (by decide)).trans (f14 h), fun h => ⟨(f15 h).1, (tn 34 (by decide)).trans (f15 h).2⟩, fun h => ⟨(f16 h).1, (tn 35 (by decide)).trans (f16 h).2⟩, fun h => ⟨(f17 h).1, (tn 36 (by decide)).trans (f17 h).2⟩, fun _ => ⟨ts, hb.size, fun _ => Blk.new w _ _⟩, fun h => (by cases h), hb.alloc hb.size _⟩
          · skip
            have hbi : b19 = false := by simpa using hun
            subst hbi
            obtain rfl := (Option.some.inj hoj).symm
            have d18 : b18 = true := by simpa using hall ⟨18, .data⟩ (by simp) (by rfl)
            have d17 : b17 = true := by simpa using hall ⟨17, .data⟩ (by simp) (by rfl)
            subst d18 d17
            obtain ⟨⟨e7, e16⟩, u36⟩ := f17 rfl
            subst e7 e16
            have e6 := (f7 rfl).1
            have e15 := (f16 rfl).1
            subst e6 e15
            obtain ⟨⟨e0, e5⟩, u25⟩ := f6 rfl
            obtain ⟨⟨e8, e14⟩, u34⟩ := f15 rfl
            subst e0 e5 e8 e14
            obtain ⟨u7, hg18, hB⟩ := f18 rfl
            replace hB := hB rfl
            have e36 : (a.tmps[36]?).getD undef = _ := u36
            have e7 : (a.tmps[7]?).getD undef = _ := u7
            have c0 := hB.cell 0
            have c1 := hB.cell 1
            have r0 := hB.frozen 0
            have r1 := hB.frozen 1
            have hB2 : Blk ((w.setCell ⟨g18, 0, none⟩ (str (kt p))).setCell ⟨g18, 1, none⟩ (str (vt q))) g18 40 #[str (kt p), str (vt q)] := (hB.set_ 0 _).set_ 1 _
            have Hsz := Lib.hid hsz
            have Hd := Lib.hid hd
            clear hsz hd
            refine wpOp_of rfl rfl ?_
            intro K' hK'
            simp at c0 c1
            go_simp
            refine hK' _ _ ?_
            show InvC _ _ _ _ _ _ _ _ _ a ((w.setCell ⟨g18, 0, none⟩ (str (kt p))).setCell ⟨g18, 1, none⟩ (str (vt q)))
            exact ⟨true, true, true, true, true, true, true, true, true, true, true, g0, g8, g18, by rfl, Hd.out, Hsz.out, ⟨t0, t1, t2, t3, t4, t5, t6, t41, t23, t32⟩, fun _ => ⟨(f0 rfl).1, fun h => (by cases h)⟩, f5, f6, f7, fun _ => ⟨(f8 rfl).1, fun h => (by cases h)⟩, f14, f15, f16, f17,
              fun _ => ⟨u7, hg18, fun h => (by cases h)⟩, fun _ => ⟨rfl, hB2⟩, (hb.setCell hg18 _).setCell hg18 _⟩
        · exact ⟨false, false, false, false, false, false, false, false, false, false, false, 0, 0, 0, by kernel_rfl, by kernel_rfl, by kernel_rfl, ⟨by kernel_rfl, by kernel_rfl, by kernel_rfl, by kernel_rfl, by kernel_rfl, by kernel_rfl, by kernel_rfl, by kernel_rfl, by kernel_rfl, by kernel_rfl⟩, by simp, by simp, by simp, by simp, by simp, by simp, by simp, by simp, by simp, by simp, by simp, hS0⟩
        · exact Nat.le_of_eq (by kernel_rfl)
      · have hi1 : (k : Int) < (n : Int) := by omega
        have hi2 : ¬ (k : Int) < (lim : Int) := by omega
        go_wp2_with fail
        go_ret
        exact ⟨_, rfl, cs, by rw [Hcl.out]; exact Ho.out, by rw [Hcl.out]; omega, Hdr.out, Hbe.out⟩
    · have hi1 : ¬ (k : Int) < (n : Int) := by omega
      go_wp2_with fail
      go_ret
      exact ⟨_, rfl, cs, by rw [Hcl.out]; exact Ho.out, by rw [Hcl.out]; omega, Hdr.out, Hbe.out⟩
end Go.Proofs.Ytecpccdmmaigiaa
