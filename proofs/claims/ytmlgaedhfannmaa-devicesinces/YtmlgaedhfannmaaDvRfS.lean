/- Device lists, the reference: DevicesSince. -/
import Derived.Test.YtmlgaedhfannmaaDvRfP
namespace Go.Proofs.Ytmlgaedhfannmaa
set_option linter.unusedVariables false
set_option linter.unusedSimpArgs false
open Go.RowKit
/-- A list put behind one update. -/
theorem upd_front (W : World) (r : Uc) (o : List Uc) (A : Option Addr) (c base : Nat) (ho : W.ownsRow base 44 5 (.slice A o.length c) o.length (pcK ucL o)) (hn : o.length ≤ 1000) :
    ∃ v' wf, (Builtin.append_ #[22, 22] 22 #[.slice (some ⟨W.heap.size, 0, none⟩) 1 1, .slice A o.length c]).run Try.prog (W.alloc (.cells #[.int .i64 r.st, .int .i64 r.pv, str r.key, str r.val, .bool r.gone] 44)) = .ok v' wf ∧
      wf.ownsRow W.heap.size 44 5 v' (o.length + 1) (pcK ucL (r :: o)) ∧ Below W.heap.size W wf := by
  obtain ⟨i0, hi0, hz0, hzs, hzb⟩ := info_parts info_upd
  have hb : Below W.heap.size W (W.alloc (.cells #[.int .i64 r.st, .int .i64 r.pv, str r.key, str r.val, .bool r.gone] 44)) := (Below.refl _ _).alloc (Nat.le_refl _) _
  have hlit : (W.alloc (.cells #[.int .i64 r.st, .int .i64 r.pv, str r.key, str r.val, .bool r.gone] 44)).ownsRow W.heap.size 44 5 (.slice (some ⟨W.heap.size, 0, none⟩) 1 1) 1 (ucL r) :=
    ⟨rfl, .inr ⟨W.heap.size, 1, _, rfl, Nat.le_refl _, Blk.new W _ _, Nat.le_refl _, by unfold maxLen; omega, rfl, rfl⟩⟩
  have ho2 := own_below ho hb
  obtain ⟨A', c', hv, hA⟩ := LIn.own ucL_len ho2
  have hnone : A = none → c = 0 := by
    injection hv with e1 _ e3
    subst e1 e3
    exact hA.2.2.1
  obtain ⟨v', wf, h1, h2, h3, h4⟩ := run_app_all (P := Try.prog) (W.alloc (.cells #[.int .i64 r.st, .int .i64 r.pv, str r.key, str r.val, .bool r.gone] 44)) 22 22 W.heap.size 44 i0 _ 5 56 Try.underlying22 hi0 hz0 hzs hzb rfl (by decide) _ 1 (ucL r) hlit _ A o.length c (pcK ucL o) hnone (by
    injection hv with e1 _ e3
    subst e1 e3
    exact hA.2.2.2) (pcK_one ucL_one o) (by omega) (by decide) (by simp)
  refine ⟨v', wf, h1, ?_, ?_⟩
  · rw [pcK_cons, Nat.add_comm]; exact h2
  · exact hb.grown h3 (by simp) fun g hg => by simp [Value.ownBlock] at hg; omega
/-- The loop from behind. -/
def DsR (us : List Uc) (a : Nat) (w w0 : World) (gk : Nat) (s9 s10 : Value) (wr : World) : Prop :=
  ∃ i : Nat, s10 = .int .i64 ((i : Int) - 1) ∧ a ≤ i ∧ i ≤ us.length ∧ gk = i - a ∧ wr.ownsRow w0.heap.size 44 5 s9 (lastOnes (us.drop i)).length (pcK ucL (lastOnes (us.drop i))) ∧ Below w0.heap.size w0 wr
def DsI (o : List Uc) (key : List UInt8) (wr : World) (n : Nat) (gk : Nat) (s11 s41 : Value) (w' : World) : Prop :=
  ∃ (j : Nat) (f : Bool), s11 = .bool f ∧ s41 = .int .i64 (j : Int) ∧ j ≤ n ∧ gk = n - j ∧ (f = !(o.take j).any (fun v => v.key == key)) ∧ Below wr.heap.size wr w'
set_option maxHeartbeats 4000000 in
set_option maxRecDepth 100000 in
theorem refDS_any (A : Option Addr) (n c B : Nat) (l : List Uc) (at_ : Int) (w : World) (hl : LIn ucL 5 w B A n c l) (hB : B ≤ w.heap.size) (hn : n ≤ 9223372036854775807) (hok : ∀ p ∈ l, UcOk p) :
    Calls Try.prog 18 #[.slice A n c, .int .i64 at_] w (SPost (sinceL l at_) w) := by
  have HC := Lib.hid (refD_any A n c B l w hl hB hn hok)
  have Hlen := Lib.hid (playL_len l)
  have HS := Lib.hid (show sinceL l at_ = if (playL l).1 ≠ 0 then ((playL l).1, []) else if at_ < 0 ∨ ((playL l).2.1.length : Int) < at_ then (2, []) else (0, lastOnes ((playL l).2.1.drop at_.toNat)) from rfl)
  unfold RpPost at HC
  generalize playL l = X at *
  obtain ⟨xe, xu, xd⟩ := X
  simp only at HC Hlen HS
  generalize sinceL l at_ = Y at *
  clear hl hok
  obtain ⟨m, hm⟩ : ∃ m, xu.length = m := ⟨_, rfl⟩
  have Hm := Lib.hid hm
  rw [hm] at HC Hlen HS
  clear hm
  go_enter Try.func18, Try.ntmps18
  go_wp2_with fail
  refine HC.out.mono ?_
  rintro e w1 ⟨A1, c1, A2, c2, rfl, h1, h2, hb1⟩
  have H1 := Lib.hid h1
  have Hb1 := Lib.hid hb1
  generalize xd.length = md at *
  clear h1 h2 hb1 HC
  by_cases he : xe = 0
  · subst he
    by_cases h1 : at_ < 0
    · have HX := Lib.hid (show Y = (2, []) by rw [HS.out, if_neg (by simp), if_pos (.inl h1)])
      clear HS
      go_wp2_with fail
      go_ret2
      rw [HX.out]
      exact sPost_err Hb1.out
    · by_cases h2 : (m : Int) < at_
      · have HX := Lib.hid (show Y = (2, []) by rw [HS.out, if_neg (by simp), if_pos (.inr h2)])
        clear HS
        go_wp2_with fail
        go_ret2
        rw [HX.out]
        exact sPost_err Hb1.out
      · obtain ⟨a, rfl⟩ := Int.eq_ofNat_of_zero_le (show 0 ≤ at_ by omega)
        have HX := Lib.hid (show Y = (0, lastOnes (xu.drop a)) by rw [HS.out, if_neg (by simp), if_neg (by omega)]; simp)
        have ham : a ≤ m := by omega
        have hm1 : m ≤ 100 := Hlen.out
        have hdb : decide ((m : Int) < (a : Int)) = false := decide_eq_false (by omega)
        have hdc : decide (m < a) = false := decide_eq_false (by omega)
        have hda : decide ((a : Int) < 0) = false := decide_eq_false (by omega)
        have hwm : IntKind.i64.wrap ((m : Int) - 1) = (m : Int) - 1 := IntWalk.i64_in _ (by omega)
        have Hst := Lib.hid (show DsR xu a w w1 (m - a) (.slice none 0 0) (.int .i64 ((m : Int) - 1)) w1 from ⟨m, rfl, ham, by rw [Hm.out]; exact Nat.le_refl _, rfl, by rw [← Hm.out, List.drop_length]; exact World.ownsRow_nil _ _ _ _, Below.refl _ _⟩)
        clear HS
        go_wp2_with fail
        go_loopg [9, 10] (m - a) (DsR xu a w w1)
        case atStart => exact Hst.out
        case round =>
          clear Hst
          obtain ⟨i, rfl, hai, him, hgk, ho, hbe⟩ := hrel
          have Hgk := Lib.hid hgk
          have Ho := Lib.hid ho
          have Hbe := Lib.hid hbe
          have hszw := hbe.size
          have him2 : i ≤ m := by have := Hm.out; omega
          clear hgk ho hbe
          by_cases hlt : a < i
          · obtain ⟨k, rfl⟩ : ∃ k, i = k + 1 := ⟨i - 1, by omega⟩
            have hkl : k < xu.length := by omega
            have Hst2 := Lib.hid (ones_step hkl)
            have hole : (lastOnes (xu.drop (k + 1))).length ≤ 100 := by have := lastOnes_len (xu.drop (k + 1)); rw [List.length_drop] at this; have := Hm.out; omega
            obtain ⟨b, off, hA, hbB, c0', c1', c2', c3', c4'⟩ := uc_at (H1.out.below Hbe.out) hkl
            subst hA
            generalize xu[k] = q at *
            generalize lastOnes (xu.drop (k + 1)) = o at *
            have hki : (((k + 1 : Nat) : Int) - 1) = (k : Int) := by omega
            rw [hki]
            have hai2 : (a : Int) ≤ (k : Int) := by omega
            have hkm : (k : Int) < (m : Int) := by omega
            have hbw : b < wr.heap.size := by omega
            have hwk : IntKind.i64.wrap ((k : Int) - 1) = (k : Int) - 1 := IntWalk.i64_in _ (by omega)
            obtain ⟨A3, c3, rfl, h3⟩ := LIn.own ucL_len Ho.out
            have H3 := Lib.hid h3
            clear h3
            obtain ⟨no, hno⟩ : ∃ no, o.length = no := ⟨_, rfl⟩
            have Hno := Lib.hid hno
            rw [hno] at H3 hole
            have Ho2 := Lib.hid (show wr.ownsRow w1.heap.size 44 5 (.slice A3 no c3) no (pcK ucL o) by have := Ho.out; rwa [hno] at this)
            rw [hno]
            clear Ho hno
            obtain ⟨wa, rfl⟩ : ∃ wa, wa = wr := ⟨_, rfl⟩
            go_wp2_with fail
            go_loopg [11, 41] no (DsI o q.key wa no)
            case atStart => exact ⟨0, true, rfl, rfl, Nat.zero_le _, by omega, by simp, Below.refl _ _⟩
            case round =>
              obtain ⟨j, f, rfl, rfl, hj, hgj, hf, hbj⟩ := hrel
              have Hgj := Lib.hid hgj
              have Hf := Lib.hid hf
              have Hbj := Lib.hid hbj
              have hszj := hbj.size
              have a2 : wr.cell? ⟨b, off + k * 5 + 2, none⟩ = some (str q.key) := (hbj.cell (p := ⟨b, off + k * 5 + 2, none⟩) hbw).trans c2'
              clear hgj hf hbj
              by_cases hjn : j < no
              · have hjl : j < o.length := by rw [Hno.out]; exact hjn
                obtain ⟨b4, off4, hA4, hb4B, e0, e1, e2, e3, e4⟩ := uc_at (H3.out.below Hbj.out) hjl
                subst hA4
                have Hft := Lib.hid (show (o.take (j + 1)).any (fun v => v.key == q.key) = ((o.take j).any (fun v => v.key == q.key) || o[j].key == q.key) by rw [List.take_succ_eq_append_getElem hjl, List.any_append]; simp)
                generalize o[j] = z at *
                obtain ⟨zs, zp, zk, zv, zg⟩ := z
                simp only at e0 e1 e2 e3 e4 Hft
                have hji : (j : Int) < (no : Int) := by omega
                have hb4w : b4 < wr.heap.size := by omega
                have hbr : b < wr.heap.size := by omega
                obtain ⟨W, hW⟩ : ∃ W, wr.alloc (.cells #[.int .i64 zs, .int .i64 zp, str zk, str zv, .bool zg] 44) = W := ⟨_, rfl⟩
                have hWB := Blk.new wr 44 #[.int .i64 zs, .int .i64 zp, str zk, str zv, .bool zg]
                have hWb : Below wr.heap.size wr W := by rw [← hW]; exact (Below.refl _ _).alloc (Nat.le_refl _) _
                have v4 : W.cell? ⟨wr.heap.size, 4, none⟩ = some (.bool zg) := by rw [← hW]; exact hWB.cell 4
                have vf4 : W.frozen? ⟨wr.heap.size, 4, none⟩ = false := by rw [← hW]; exact hWB.frozen 4
                rw [hW] at hWB
                have z2 : W.cell? ⟨wr.heap.size, 2, none⟩ = some (str zk) := hWB.cell 2
                have a3 : W.cell? ⟨b, off + k * 5 + 2, none⟩ = some (str q.key) := (hWb.cell (p := ⟨b, off + k * 5 + 2, none⟩) hbr).trans a2
                have Hbn := Lib.hid (Hbj.out.trans (hWb.mono hszj))
                clear hWb hWB
                cases f with
                | false =>
                  have HT := Lib.hid (show false = !(o.take (j + 1)).any (fun v => v.key == q.key) by
                    have h1 := Hf.out
                    rw [Hft.out]
                    cases hh : (o.take j).any (fun v => v.key == q.key) with
                    | true => rfl
                    | false => rw [hh] at h1; cases h1)
                  clear Hf Hft
                  go_wp2_with fail
                  go_quiet (fail)
                  go_wp2_with fail
                  go_roundg (no - (j + 1))
                  case measure => have := Hgj.out; omega
                  case rel => exact ⟨j + 1, false, rfl, by go_num, by omega, rfl, HT.out, below_drewN Hbn.out _⟩
                | true =>
                  have hne : (zk != q.key) = !(zk == q.key) := rfl
                  have HT := Lib.hid (show (!(zk == q.key)) = !(o.take (j + 1)).any (fun v => v.key == q.key) by
                    have h1 := Hf.out
                    rw [Hft.out]
                    cases hh : (o.take j).any (fun v => v.key == q.key) with
                    | true => rw [hh] at h1; cases h1
                    | false => rfl)
                  clear Hf Hft
                  rw [← hne] at HT
                  clear hne
                  generalize hrb : (zk != q.key) = rb at *
                  have hrb2 : (!(zk == q.key)) = rb := hrb
                  go_wp2_with fail
                  go_quiet (fail)
                  go_wp2_with fail
                  go_roundg (no - (j + 1))
                  case measure => have := Hgj.out; omega
                  case rel => exact ⟨j + 1, rb, rfl, by go_num, by omega, rfl, HT.out, below_drewN Hbn.out _⟩
              · have hji : ¬ (j : Int) < (no : Int) := by omega
                have hfo : f = !(o.any (fun v => v.key == q.key)) := by have h1 := Hf.out; rwa [List.take_of_length_le (by have := Hno.out; omega)] at h1
                have hO5 := own_below Ho2.out Hbj.out
                have Hbr := Lib.hid (Hbe.out.trans (Hbj.out.mono hszw))
                have a0 : wr.cell? ⟨b, off + k * 5, none⟩ = some (.int .i64 q.st) := (Hbj.out.cell (p := ⟨b, off + k * 5, none⟩) hbw).trans c0'
                have a1 : wr.cell? ⟨b, off + k * 5 + 1, none⟩ = some (.int .i64 q.pv) := (Hbj.out.cell (p := ⟨b, off + k * 5 + 1, none⟩) hbw).trans c1'
                have a3 : wr.cell? ⟨b, off + k * 5 + 3, none⟩ = some (str q.val) := (Hbj.out.cell (p := ⟨b, off + k * 5 + 3, none⟩) hbw).trans c3'
                have a4 : wr.cell? ⟨b, off + k * 5 + 4, none⟩ = some (.bool q.gone) := (Hbj.out.cell (p := ⟨b, off + k * 5 + 4, none⟩) hbw).trans c4'
                clear Hf
                cases hf2 : o.any (fun v => v.key == q.key) with
                | true =>
                  rw [hf2] at hfo
                  have hfo2 : f = false := hfo
                  subst hfo2
                  have HT := Lib.hid (show lastOnes (xu.drop k) = o by rw [Hst2.out, hf2]; rfl)
                  have HO := Lib.hid (show wr.ownsRow w1.heap.size 44 5 (.slice A3 no c3) (lastOnes (xu.drop k)).length (pcK ucL (lastOnes (xu.drop k))) by rw [HT.out, Hno.out]; exact hO5)
                  clear hO5 hfo hf2 Hst2
                  go_wp2_with fail
                  go_roundg (k - a)
                  case measure => have := Hgk.out; omega
                  case rel => exact ⟨k, by go_num, by omega, by omega, rfl, HO.out, Hbr.out⟩
                | false =>
                  rw [hf2] at hfo
                  have hfo2 : f = true := hfo
                  subst hfo2
                  have HT := Lib.hid (show lastOnes (xu.drop k) = q :: o by rw [Hst2.out, hf2]; rfl)
                  obtain ⟨v', wf, hrun, ho6, hb6⟩ := upd_front wr q o A3 c3 w1.heap.size (by rw [Hno.out]; exact hO5) (by have := Hno.out; omega)
                  rw [Hno.out] at hrun ho6
                  have hb7 := Hbr.out.trans (hb6.mono Hbr.out.size)
                  have HO := Lib.hid (show wf.ownsRow w1.heap.size 44 5 v' (lastOnes (xu.drop k)).length (pcK ucL (lastOnes (xu.drop k))) by
                    rw [HT.out, List.length_cons, Hno.out]; exact own_le ho6 Hbr.out.size)
                  have Hrun := Lib.hid hrun
                  have Hb7 := Lib.hid hb7
                  clear hO5 hfo hf2 Hst2 hrun ho6 hb6 hb7
                  go_wp2_with (first | (at_builtin; refine dv_app rfl _ _ _ rfl _ _ (by rfl) (by rfl) Hrun.out ?_; clear Hrun) | fail)
                  go_roundg (k - a)
                  case measure => have := Hgk.out; omega
                  case rel => exact ⟨k, by go_num, by omega, by omega, rfl, HO.out, Hb7.out⟩
          · have hia : i = a := by omega
            subst hia
            have hlt2 : ¬ (i : Int) ≤ (i : Int) - 1 := by omega
            obtain ⟨A3, c3, rfl, h3⟩ := LIn.own ucL_len Ho.out
            have H3 := Lib.hid h3
            clear h3 Ho
            go_wp2_with fail
            go_ret2
            rw [HX.out]
            exact ⟨A3, c3, rfl, H3.out, Hb1.out.trans (Hbe.out.mono Hb1.out.size)⟩
  · have hxe : (xe != 0) = true := by simpa using he
    have HX := Lib.hid (show Y = (xe, []) by rw [HS.out, if_pos he])
    clear HS
    go_wp2_with fail
    go_ret2
    rw [HX.out]
    exact sPost_err Hb1.out
end Go.Proofs.Ytmlgaedhfannmaa
