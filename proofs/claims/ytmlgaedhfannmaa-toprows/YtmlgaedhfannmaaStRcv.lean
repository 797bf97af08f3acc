/- The store: Recover. -/
import Derived.Test.YtmlgaedhfannmaaStApp
import Derived.Test.YtmlgaedhfannmaaBunWD
namespace Go.Proofs.Ytmlgaedhfannmaa
set_option linter.unusedVariables false
set_option linter.unusedSimpArgs false
open Go.RowKit
theorem sum_ge5 : ∀ b : List (List UInt8), (∀ r ∈ b, okRec r) → 5 * b.length ≤ (b.map (fun r => r.length + 4)).sum
  | [], _ => by simp
  | r :: b, h => by
    have h1 := sum_ge5 b fun x hx => h x (by simp [hx])
    have h2 := (h r (by simp)).1
    simp only [List.map_cons, List.sum_cons, List.length_cons]; omega
theorem scan_few {l : List UInt8} (h : l.length ≤ 1200) : (scan l).1.length ≤ 1200 ∧ ∀ b ∈ (scan l).1, b.length ≤ 240 ∧ okBatch b := by
  obtain ⟨h1, ⟨d, h2⟩, h3⟩ := scan_reads l
  have h4 : l.length = (packs (scan l).1).length + d.length := by
    have := congrArg List.length h2
    rwa [List.length_append] at this
  obtain ⟨h5, h6⟩ := packs_ge _ h1
  refine ⟨by omega, fun b hb => ⟨?_, h1 b hb⟩⟩
  have h7 := h6 b hb
  rw [pack_len] at h7
  have := sum_ge5 b (h1 b hb).2
  omega
def recRes (o : Option (List Rw)) (used : Nat) : List Rw × Nat × Int :=
  match o with
  | none => ([], 0, 4)
  | some t => (t, used, 0)
theorem recoverR_few {l : List UInt8} (h : ¬ 1200 < l.length) : recoverR l = recRes (recGo [] (scan l).1) (scan l).2 := by
  unfold recoverR
  rw [if_neg h]
  cases recGo [] (scan l).1 <;> rfl
def RecPost (X : List Rw × Nat × Int) (w : World) (e : Ending) (w' : World) : Prop :=
  ∃ (A : Option Addr) (c : Nat), e = .returned (.tuple #[.slice A X.1.length c, .int .i64 (X.2.1 : Int), .int .i64 X.2.2]) ∧ RIn w' w'.heap.size A X.1.length c X.1 ∧ Below w.heap.size w w'
def RecPostS (X : List Rw × Nat × Int) (w : World) (e : Ending) (w' : World) : Prop :=
  ∃ (A : Option Addr) (c : Nat), e = .returned (.tuple #[.slice A X.1.length c, .int .i64 (X.2.1 : Int), .int .i64 X.2.2]) ∧ RInS w' (fun b => w.heap.size ≤ b) A X.1.length c X.1 ∧ Below w.heap.size w w'
def RcvS (w w1 : World) (bss : List (List (List UInt8))) (n : Nat) (gk : Nat) (s8 s22 : Value) (wr : World) : Prop :=
  ∃ (k : Nat) (t : List Rw) (A : Option Addr) (c : Nat), s22 = .int .i64 (k : Int) ∧ k ≤ n ∧ gk = n - k ∧ recGo [] (bss.take k) = some t ∧ s8 = .slice A t.length c ∧ RInS wr (fun b => w.heap.size ≤ b) A t.length c t ∧ Below w1.heap.size w1 wr
def RcvR (w w1 : World) (bss : List (List (List UInt8))) (n : Nat) (gk : Nat) (s8 s22 : Value) (wr : World) : Prop :=
  ∃ (k : Nat) (t : List Rw) (A : Option Addr) (c : Nat), s22 = .int .i64 (k : Int) ∧ k ≤ n ∧ gk = n - k ∧ recGo [] (bss.take k) = some t ∧ s8 = .slice A t.length c ∧ RIn wr wr.heap.size A t.length c t ∧ Below w1.heap.size w1 wr
set_option maxHeartbeats 2000000 in
set_option maxRecDepth 100000 in
theorem recover_lo (A : Option Addr) (n c : Nat) (l : List UInt8) (w : World) (hh : Holds w w.heap.size 1 A n (l.map bv)) (hnc : n ≤ c) (hn : n ≤ 9223372036854775807) :
    Calls Try.prog 109 #[.slice A n c] w (RecPostS (recoverR l) w) := by
  have hl := hh.len
  have HS := Lib.hid (wlScan_any A n c l w hh hnc hn)
  by_cases hbig : 1200 < l.length
  · have HR := Lib.hid (show recoverR l = ([], 0, 1) by unfold recoverR; rw [if_pos hbig])
    have hS : scanR l = ([], 0, 1) := by unfold scanR; rw [if_pos hbig]
    rw [hS] at HS
    clear hl hh hbig hS
    go_enter Try.func109, Try.ntmps109
    go_wp2_with fail
    refine HS.out.mono ?_
    rintro e w1 ⟨v, rfl, -, hb1⟩
    have Hb1 := Lib.hid hb1
    clear hb1 HS
    go_wp2_with fail
    go_ret3
    rw [HR.out]
    exact ⟨none, 0, rfl, ⟨rfl, Nat.le_refl _, fun _ => rfl, HoldsS.nil⟩, Hb1.out⟩
  · have hS : scanR l = ((scan l).1, (scan l).2, 0) := by unfold scanR; rw [if_neg hbig]
    have HR := Lib.hid (recoverR_few hbig)
    have Hfew := Lib.hid (scan_few (l := l) (by omega))
    rw [hS] at HS
    generalize (scan l).1 = bss at *
    generalize (scan l).2 = used at *
    clear hl hh hbig hS
    go_enter Try.func109, Try.ntmps109
    go_wp2_with fail
    refine HS.out.mono ?_
    rintro e w1 ⟨v, rfl, hin, hb1⟩
    obtain ⟨Av, cv, csv, rfl, hcv, hAv, hhv, hav⟩ := hin
    obtain ⟨nb, hnb⟩ : ∃ nb, bss.length = nb := ⟨_, rfl⟩
    have hhv' : HoldsS w1 (lowB w1.heap.size) 1 Av bss.length csv := hhv.mono fun b hb => hb.2
    have hav' : Ats (In2 w1 (lowB w1.heap.size)) bss csv := hav.imp fun x u hu => stays2.2 _ _ _ _ _ hu fun b hb => hb.2
    rw [hnb] at hhv'
    have Hb1 := Lib.hid hb1
    have Hhv := Lib.hid hhv'
    have Hav := Lib.hid hav'
    have Hnb := Lib.hid hnb.symm
    have hnb12 : nb ≤ 1200 := by have := Hfew.out.1; omega
    simp only [hnb]
    clear hb1 HS hhv hav hhv' hav' hcv hAv hnb
    go_wp2_with fail
    go_loopg [8, 22] nb (RcvS w w1 bss nb)
    case atStart => exact ⟨0, [], none, 0, rfl, Nat.zero_le _, by omega, rfl, rfl, ⟨rfl, Nat.le_refl _, fun _ => rfl, HoldsS.nil⟩, Below.refl _ _⟩
    case round =>
      obtain ⟨k, t, At, ct, rfl, hk, hgk, hrg, rfl, hin, hbe⟩ := hrel
      have Hgk := Lib.hid hgk
      have Hrg := Lib.hid hrg
      have Hin := Lib.hid hin
      have Hbe := Lib.hid hbe
      have hszw := hbe.size
      clear hgk hrg hin hbe
      by_cases hkn : k < nb
      · have hkl : k < bss.length := by have := Hnb.out; omega
        have hkeep : ∀ p : Addr, lowB w1.heap.size p.block → wr.cell? p = w1.cell? p := fun p hp => Hbe.out.cell hp
        obtain ⟨b, off, u, hA', hbb, hc1, A2, c2, cs2, hu, hc2, hA2, hh2, ha2⟩ := InL.at_ (In := In2) (Hhv.out.kept hkeep) (stays2.ats Hav.out hkeep (fun _ h => h)) hkn Hnb.out
        subst hA' hu
        obtain ⟨hq, hob⟩ := Hfew.out.2 bss[k] (List.getElem_mem hkl)
        have HA := Lib.hid (apply_any w.heap.size At A2 t.length ct bss[k].length c2 wr.heap.size w1.heap.size t bss[k] cs2 wr (Hin.out.mono fun b hb h => ⟨h, hb⟩) (Nat.le_refl _) (Nat.le_trans Hb1.out.size hszw) (recGo_fit fit_nil Hrg.out) hh2 ha2 hszw rfl (by omega) hob.2)
        have HT := Lib.hid (show recGo [] (bss.take (k + 1)) = applyR t bss[k] by rw [List.take_succ_eq_append_getElem hkl, recGo_snoc, Hrg.out]; rfl)
        have Hno := Lib.hid (fun (h : recGo [] (bss.take (k + 1)) = none) => recGo_take h)
        generalize bss[k].length = q at *
        have hkn' : (k : Int) < (nb : Int) := by omega
        have hbw : b < wr.heap.size := by omega
        clear hkeep hh2 ha2 hob hA2 hq
        cases hap : applyR t bss[k] with
        | none =>
          rw [hap] at HA HT
          have HE := Lib.hid (Hno.out HT.out)
          clear hap
          go_wp2_with fail
          refine HA.out.mono ?_
          rintro e w3 ⟨A3, c3, rfl, -, hb3⟩
          have Hb3 := Lib.hid (Hb1.out.trans ((Hbe.out.trans (hb3.mono hszw)).mono Hb1.out.size))
          clear hb3 HA
          go_wp2_with fail
          go_ret3
          rw [HR.out, HE.out]
          exact ⟨none, 0, rfl, ⟨rfl, Nat.le_refl _, fun _ => rfl, HoldsS.nil⟩, Hb3.out⟩
        | some t' =>
          rw [hap] at HA HT
          clear hap
          go_wp2_with fail
          refine HA.out.mono ?_
          rintro e w3 ⟨A3, c3, rfl, hin3, hb3⟩
          have Hb3 := Lib.hid (Hbe.out.trans (hb3.mono hszw))
          have Hin3 := Lib.hid hin3
          clear hb3 hin3 HA
          go_wp2_with fail
          go_roundg (nb - (k + 1))
          case measure => have := Hgk.out; omega
          case rel => exact ⟨k + 1, t', A3, c3, by go_num, by omega, rfl, HT.out, rfl, Hin3.out, Hb3.out⟩
      · have hkl : bss.take k = bss := List.take_of_length_le (by have := Hnb.out; omega)
        have Hrg2 := Lib.hid (show recGo [] bss = some t by rw [← hkl]; exact Hrg.out)
        have hkn' : ¬ (k : Int) < (nb : Int) := by omega
        clear hkl
        go_wp2_with fail
        go_ret3
        rw [HR.out, Hrg2.out]
        exact ⟨At, ct, rfl, Hin.out, Hb1.out.trans (Hbe.out.mono Hb1.out.size)⟩
theorem recover_any (A : Option Addr) (n c : Nat) (l : List UInt8) (w : World) (hh : Holds w w.heap.size 1 A n (l.map bv)) (hnc : n ≤ c) (hn : n ≤ 9223372036854775807) :
    Calls Try.prog 109 #[.slice A n c] w (RecPost (recoverR l) w) :=
  (recover_lo A n c l w hh hnc hn).mono fun _ _ ⟨A', c', h1, h2, h3⟩ => ⟨A', c', h1, h2.all, h3⟩
end Go.Proofs.Ytmlgaedhfannmaa
