/- Package wal: the checksum; the reference's two sums. -/
import Derived.Test.YtbdbcffnjibjoaaWlM
import Derived.Test.YtbdbcffnjibjoaaOwnB
import Derived.Test.YtbdbcffnjibjoaaBunA
namespace Go.Proofs.Ytbdbcffnjibjoaa
set_option linter.unusedVariables false
set_option linter.unusedSimpArgs false
open Go.RowKit
theorem ret_a2 {fn : Func} {R : Ending → World → Prop} {a : Act} {W : World} {g : Nat} {s1 : Tmp} {cs : Array Value} {x0 x1 : Value}
    (hf : fn.results = #[.cell s1 53]) (h1 : a.tmps.getD s1 undef = .pointer (some ⟨g, 0, none⟩))
    (hb : Blk W g 53 cs) (hd : a.defers = []) (hR : R (.returned (.agg #[x0, x1])) W) (hcs : cs = #[x0, x1] := by rfl) : bodyPost Try.prog fn R .ret a W := by
  refine bodyPost_ret ?_ hd hR
  subst hcs
  have c0 : W.cell? ⟨g, 0, none⟩ = some x0 := hb.cell 0
  have c1 : W.cell? ⟨g, 1, none⟩ = some x1 := hb.cell 1
  simp only [Array.getD_eq_getD_getElem?] at h1
  simp [results, hf, h1, go_sem, c0, c1]
def CkR (w : World) (l : List UInt8) (n : Nat) (gk : Nat) (vi : Value) (wr : World) : Prop :=
  ∃ (k s t : Nat), vi = .int .i64 k ∧ k ≤ n ∧ gk = n - k ∧ sums (l.take k) = (s, t) ∧ s < 251 ∧ t < 251 ∧ Below w.heap.size w wr ∧ w.heap.size + 2 ≤ wr.heap.size ∧
    Blk wr w.heap.size 53 #[.int .u8 0, .int .u8 0] ∧ Blk wr (w.heap.size + 1) 55 #[.int .i64 s, .int .i64 t]
theorem checksum_any (A : Option Addr) (n c : Nat) (l : List UInt8) (w : World) (hh : Holds w w.heap.size 1 A n (l.map bv)) (hn : n ≤ 9223372036854775807) :
    Calls Try.prog 30 #[.slice A n c] w fun e w' => e = .returned (.agg #[.int .u8 ((sums l).1 : Nat), .int .u8 ((sums l).2 : Nat)]) ∧ Below w.heap.size w w' := by
  have hl := hh.len
  have Hh := Lib.hid hh
  have Hl := Lib.hid hl
  clear hh hl
  go_enter Try.func30, Try.ntmps30
  go_wp2
  go_loopg [8] n (CkR w l n)
  case atStart =>
    refine ⟨0, 0, 0, rfl, by omega, by omega, rfl, by omega, by omega, ?_, by simp, ?_, ?_⟩
    · exact ((Below.refl _ _).alloc (Nat.le_refl _) _).alloc (by simp) _
    · exact (Blk.new w _ _).alloc _
    · have := Blk.new (w.alloc (.cells #[.int .u8 0, .int .u8 0] 53)) 55 #[.int .i64 0, .int .i64 0]
      simpa using this
  case round =>
    obtain ⟨k, s, t, rfl, hk, hgk, hs, hs1, ht1, hb, hsz, hB0, hB1⟩ := hrel
    have Hgk := Lib.hid hgk
    have Hs := Lib.hid hs
    have Hb := Lib.hid hb
    have c0 : wr.cell? ⟨w.heap.size + 1, 0, none⟩ = some (.int .i64 s) := hB1.cell 0
    have c1 : wr.cell? ⟨w.heap.size + 1, 1, none⟩ = some (.int .i64 t) := hB1.cell 1
    have f0 := hB1.frozen 0
    have f1 := hB1.frozen 1
    have d0 : wr.cell? ⟨w.heap.size, 0, none⟩ = some (.int .u8 0) := hB0.cell 0
    have d1 : wr.cell? ⟨w.heap.size, 1, none⟩ = some (.int .u8 0) := hB0.cell 1
    have g0 := hB0.frozen 0
    have g1 := hB0.frozen 1
    have HB0 := Lib.hid hB0
    have HB1 := Lib.hid hB1
    clear hgk hs hb hB0 hB1
    by_cases hkn : k < n
    · obtain ⟨b, off, hkl, hA, hbb, hc1⟩ := Hh.out.byte hkn
      subst hA
      have hc2 : wr.cell? ⟨b, off + k, none⟩ = some (.int .u8 (l[k].toNat : Int)) := by rw [← hc1]; exact Hb.out.cell hbb
      have Hsn := Lib.hid (show sums (l.take (k + 1)) = ((s + l[k].toNat + 1) % 251, (t + (s + l[k].toNat + 1) % 251) % 251) by
        rw [List.take_succ_eq_append_getElem hkl, sums_snoc, Hs.out]; rfl)
      have hcl := l[k].toNat_lt
      clear hc1
      generalize l[k].toNat = x at *
      go_wp2
      all_goals
        go_roundg (n - (k + 1))
        case measure => have := Hgk.out; omega
        case rel =>
          refine ⟨k + 1, (s + x + 1) % 251, (t + (s + x + 1) % 251) % 251, by go_num, by omega, rfl, Hsn.out, Nat.mod_lt _ (by decide), Nat.mod_lt _ (by decide), ?_, by simpa using hsz, ?_, ?_⟩
          · exact (Hb.out.setCell (by simp) _).setCell (by simp) _
          · exact (HB0.out.far (by simp) _).far (by simp) _
          · have h2 := (HB1.out.set_ 0 (.int .i64 (((s : Int) + x + 1) % 251))).set_ 1 (.int .i64 (((t : Int) + (s + x + 1)) % 251))
            have e1 : (((s + x + 1) % 251 : Nat) : Int) = ((s : Int) + x + 1) % 251 := by omega
            have e2 : (((t + (s + x + 1) % 251) % 251 : Nat) : Int) = ((t : Int) + (s + x + 1)) % 251 := by omega
            rw [e1, e2]
            exact h2
    · have hkn' : k = n := by omega
      subst hkn'
      have Hs2 := Lib.hid (show sums l = (s, t) by rw [← Hs.out, List.take_of_length_le (by rw [Hl.out]; omega)])
      go_wp2
      refine ret_a2 (by rfl) (by rfl) ((HB0.out.set_ 0 _).set_ 1 _) (by rfl) ?_
      exact ⟨by rw [Hs2.out], (Hb.out.setCell (by simp) _).setCell (by simp) _⟩
end Go.Proofs.Ytbdbcffnjibjoaa
