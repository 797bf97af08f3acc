/- sameBatches of the statements: what the call returns. -/
import Derived.Test.YtbdbcffnjibjoaaWlSt
import Derived.Test.YtbdbcffnjibjoaaWlPack
import Derived.Test.YtbdbcffnjibjoaaSameKeep
import Derived.Test.YtbdbcffnjibjoaaBunA
namespace Go.Proofs.Ytbdbcffnjibjoaa
set_option linter.unusedVariables false
set_option linter.unusedSimpArgs false
open Go.RowKit
theorem quiet_add {P : Program} {f : FuncId} {args : Array Value} {w : World} {q n : Nat} {v : Value} (h : Calls P f args (w.drewN (q + n)) fun e w' => e = .returned v ∧ ∃ m, w' = (w.drewN (q + n)).drewN m) :
    Calls P f args (w.drewN (q + n)) fun e w'' => e = .returned v ∧ ∃ m, w'' = w.drewN (q + m) :=
  h.mono fun _ _ ⟨he, m, hm⟩ => ⟨he, n + m, by rw [hm, World.drewN_drewN, Nat.add_assoc]⟩
def sbKO (w : World) (x y : List (List (List UInt8))) (n : Nat) (gk : Nat) (vi : Value) (wr : World) : Prop :=
  ∃ k q : Nat, vi = .int .i64 k ∧ k ≤ n ∧ gk = n - k ∧ x.take k = y.take k ∧ wr = w.drewN q
def sbKI (w : World) (x y : List (List UInt8)) (n : Nat) (gk : Nat) (vi : Value) (wr : World) : Prop :=
  ∃ k q : Nat, vi = .int .i64 k ∧ k ≤ n ∧ gk = n - k ∧ x.take k = y.take k ∧ wr = w.drewN q
set_option maxRecDepth 100000 in
set_option maxHeartbeats 4000000 in
theorem sbK_any (x y : List (List (List UInt8))) (v1 v2 : Value) (w : World) (B1 B2 : Nat) (h1 : In3 w (lowB B1) x v1) (h2 : In3 w (lowB B2) y v2) (hB1 : B1 ≤ w.heap.size) (hB2 : B2 ≤ w.heap.size) (hx : BdL x) (hy : BdL y) :
    Calls Try.prog 19 #[v1, v2] w fun e w' => e = .returned (.bool (x == y)) ∧ ∃ q, w' = w.drewN q := by
  obtain ⟨A1, c1, cs1, rfl, _, _, hh1, ha1⟩ := h1
  obtain ⟨A2, c2, cs2, rfl, _, _, hh2, ha2⟩ := h2
  obtain ⟨hx1, hx2⟩ := hx
  obtain ⟨hy1, hy2⟩ := hy
  by_cases hnm : x.length = y.length
  · obtain ⟨n, hn⟩ : ∃ n, x.length = n := ⟨_, rfl⟩
    have hn2 : y.length = n := by omega
    rw [hn] at hh1 hx1 ⊢
    rw [hn2] at hh2 hy1 ⊢
    have hb : ((n : Int) != (n : Int)) = false := by simp
    have Hn := Lib.hid hn
    have Hn2 := Lib.hid hn2
    have Hx2 := Lib.hid hx2
    have Hy2 := Lib.hid hy2
    clear hn hn2 hnm hx2 hy2
    go_enter Try.func19, Try.ntmps19
    go_wp2
    go_loopg [5] n (sbKO w x y n)
    case atStart => exact ⟨0, 0, rfl, by omega, by omega, by simp, rfl⟩
    case round =>
      obtain ⟨i, q, rfl, hi, hg, ht, rfl⟩ := hrel
      have Ht := Lib.hid ht
      have Hg := Lib.hid hg
      clear ht hg
      by_cases hlt : i < n
      · obtain ⟨b1, o1, u1, rfl, hb1, hc1, A3, c3, cs3, rfl, hcc3, _, hh3, ha3⟩ := InL.at_ hh1 ha1 hlt Hn.out.symm
        obtain ⟨b2, o2, u2, rfl, hb2, hc2, A4, c4, cs4, rfl, hcc4, _, hh4, ha4⟩ := InL.at_ hh2 ha2 hlt Hn2.out.symm
        have hix : i < x.length := by have := Hn.out; omega
        have hiy : i < y.length := by have := Hn2.out; omega
        obtain ⟨hxi1, hxi2⟩ := Hx2.out x[i] (List.getElem_mem hix)
        obtain ⟨hyi1, hyi2⟩ := Hy2.out y[i] (List.getElem_mem hiy)
        have Hs := Lib.hid (show x[i] = y[i] → x.take (i + 1) = y.take (i + 1) from fun h => by
          rw [List.take_succ_eq_append_getElem hix, List.take_succ_eq_append_getElem hiy, Ht.out, h])
        have Hno := Lib.hid (show x[i] ≠ y[i] → (x == y) = false from fun h => by
          rw [beq_eq_false_iff_ne]; rintro rfl; exact h rfl)
        generalize x[i] = xi at *
        generalize y[i] = yi at *
        have hin : (i : Int) < (n : Int) := by omega
        by_cases hnm : xi.length = yi.length
        · obtain ⟨m, hm⟩ : ∃ m, xi.length = m := ⟨_, rfl⟩
          have hm2 : yi.length = m := by omega
          rw [hm] at hc1 hxi1 hh3 hcc3
          rw [hm2] at hc2 hyi1 hh4 hcc4
          have Hm := Lib.hid hm
          have Hm2 := Lib.hid hm2
          have Hxi2 := Lib.hid hxi2
          have Hyi2 := Lib.hid hyi2
          clear hm hm2 hnm hxi2 hyi2
          have hbm : ((m : Int) != (m : Int)) = false := by simp
          go_wp2_with fail
          go_quiet (fail)
          go_wp2
          go_loopg [6] m (sbKI w xi yi m)
          case atStart => first | exact ⟨0, _, rfl, by omega, by omega, by simp, rfl⟩ | exact ⟨0, _, rfl, by omega, by omega, by simp, World.drewN_drewN _ _ _⟩
          case round =>
            obtain ⟨j, q2, rfl, hj, hg2, ht2, rfl⟩ := hrel
            have Ht2 := Lib.hid ht2
            have Hg2 := Lib.hid hg2
            clear ht2 hg2
            by_cases hlt2 : j < m
            · obtain ⟨b5, o5, u5, rfl, hb5, hc5, A5, c5, rfl, hcc5, hA5, hr5⟩ := InL.at_ hh3 ha3 hlt2 Hm.out.symm
              obtain ⟨b6, o6, u6, rfl, hb6, hc6, A6, c6, rfl, hcc6, hA6, hr6⟩ := InL.at_ hh4 ha4 hlt2 Hm2.out.symm
              have hjx : j < xi.length := by have := Hm.out; omega
              have hjy : j < yi.length := by have := Hm2.out; omega
              have hxj := Hxi2.out xi[j] (List.getElem_mem hjx)
              have hyj := Hyi2.out yi[j] (List.getElem_mem hjy)
              have Hs2 := Lib.hid (show xi[j] = yi[j] → xi.take (j + 1) = yi.take (j + 1) from fun h => by
                rw [List.take_succ_eq_append_getElem hjx, List.take_succ_eq_append_getElem hjy, Ht2.out, h])
              have Hno2 := Lib.hid (show xi[j] ≠ yi[j] → xi ≠ yi from fun h => by rintro rfl; exact h rfl)
              generalize xi[j] = xj at *
              generalize yi[j] = yj at *
              have hjm : (j : Int) < (m : Int) := by omega
              have hcall := Lib.hid (fun q => samekeep_any A5 A6 xj.length yj.length c5 c6 xj yj (w.drewN q) (Holds.wider (show Holds (w.drewN q) B1 1 A5 xj.length (xj.map bv) from hr5) hB1) (Holds.wider (show Holds (w.drewN q) B2 1 A6 yj.length (yj.map bv) from hr6) hB2) hxj hyj)
              by_cases heq : xj = yj
              · have hbe : (xj == yj) = true := by simp [heq]
                have Hs3 := Lib.hid (Hs2.out heq)
                rw [hbe] at hcall
                clear heq Hs2 Hno2
                go_wp2_with fail
                go_quiet ((go_at_call 28; exact quiet_add (hcall.out _)))
                go_wp2
                go_roundg (m - (j + 1))
                case measure => have := Hg2.out; omega
                case rel => first | exact ⟨j + 1, _, by go_num, by omega, rfl, Hs3.out, rfl⟩ | exact ⟨j + 1, _, by go_num, by omega, rfl, Hs3.out, World.drewN_drewN _ _ _⟩
              · have hbe : (xj == yj) = false := by simpa using heq
                have Hs3 := Lib.hid (Hno.out (Hno2.out heq))
                rw [hbe] at hcall
                clear heq Hs2 Hno2
                go_wp2_with fail
                go_quiet ((go_at_call 28; exact quiet_add (hcall.out _)))
                go_wp2
                go_ret
                first | exact ⟨by rw [Hs3.out]; rfl, _, rfl⟩ | exact ⟨by rw [Hs3.out]; rfl, _, World.drewN_drewN _ _ _⟩
            · have Hs2 := Lib.hid (show xi = yi by
                have := Ht2.out
                rwa [List.take_of_length_le (by have := Hm.out; omega), List.take_of_length_le (by have := Hm2.out; omega)] at this)
              go_wp2
              go_roundg (n - (i + 1))
              case measure => have := Hg.out; omega
              case rel => exact ⟨i + 1, _, by go_num, by omega, rfl, Hs.out Hs2.out, rfl⟩
        · have hbm : ((xi.length : Int) != (yi.length : Int)) = true := by rw [bne_iff_ne]; omega
          have Hs2 := Lib.hid (Hno.out (fun h => hnm (by rw [h])))
          clear hnm Hs Hno hh3 ha3 hh4 ha4
          generalize xi.length = n3 at *
          generalize yi.length = n4 at *
          go_wp2_with fail
          go_quiet (fail)
          go_wp2
          go_ret
          first | exact ⟨by rw [Hs2.out]; rfl, _, rfl⟩ | exact ⟨by rw [Hs2.out]; rfl, _, World.drewN_drewN _ _ _⟩
      · have Hs := Lib.hid (show (x == y) = true by
          rw [beq_iff_eq]
          have := Ht.out
          rwa [List.take_of_length_le (by have := Hn.out; omega), List.take_of_length_le (by have := Hn2.out; omega)] at this)
        go_wp2
        go_ret
        exact ⟨by rw [Hs.out]; rfl, _, rfl⟩
  · have hb : ((x.length : Int) != (y.length : Int)) = true := by rw [bne_iff_ne]; omega
    have Hs := Lib.hid (show (x == y) = false by
      rw [beq_eq_false_iff_ne]
      rintro rfl
      exact hnm rfl)
    clear hnm hh1 hh2 ha1 ha2
    generalize x.length = n1 at *
    generalize y.length = n2 at *
    go_enter Try.func19, Try.ntmps19
    go_wp2
    go_ret
    exact ⟨by rw [Hs.out]; rfl, 0, rfl⟩
end Go.Proofs.Ytbdbcffnjibjoaa
