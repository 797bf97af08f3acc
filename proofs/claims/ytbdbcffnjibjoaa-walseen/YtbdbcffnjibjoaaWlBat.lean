/- Batches of the statements: what the call returns. -/
import Derived.Test.YtbdbcffnjibjoaaWlSt
import Derived.Test.YtbdbcffnjibjoaaWlBd
import Derived.Test.YtbdbcffnjibjoaaPicked
import Derived.Test.YtbdbcffnjibjoaaInts
namespace Go.Proofs.Ytbdbcffnjibjoaa
set_option linter.unusedVariables false
set_option linter.unusedSimpArgs false
open Go.RowKit
/-- One to three records of one to six bytes. -/
def SmB (b : List (List UInt8)) : Prop := b ≠ [] ∧ b.length ≤ 3 ∧ ∀ r ∈ b, 1 ≤ r.length ∧ r.length ≤ 6
def SmBs (n : Nat) (bs : List (List (List UInt8))) : Prop := bs.length ≤ n ∧ ∀ b ∈ bs, SmB b
theorem SmB.ok {b : List (List UInt8)} (h : SmB b) : okBatch b := ⟨h.1, fun r hr => ⟨(h.2.2 r hr).1, by have := (h.2.2 r hr).2; omega⟩⟩
theorem pickN_any (a : Int) (n : Nat) (w : World) (hn : 0 < n) (hn2 : n ≤ 1048576) :
    Calls Try.prog 18 #[.int .i64 a, .int .i64 (n : Int)] w fun e w' => ∃ d : Nat, e = .returned (.int .i64 d) ∧ d < n ∧ w = w' := by
  refine (picked_any a n w (by omega) (by omega)).mono ?_
  rintro e w1 ⟨rfl, rfl⟩
  have h0 := Int.emod_nonneg a (show (n : Int) ≠ 0 by omega)
  have h1 := Int.emod_lt_of_pos a (show (0 : Int) < n by omega)
  exact ⟨(a % n).toNat, by rw [Int.toNat_of_nonneg h0], by omega, rfl⟩
def BtO (w : World) (n : Nat) (gk : Nat) (vB vi : Value) (wr : World) : Prop :=
  ∃ (i : Nat) (bs : List (List (List UInt8))), vi = .int .i64 i ∧ i ≤ n ∧ gk = n - i ∧ bs.length = i ∧ (∀ b ∈ bs, SmB b) ∧ ScSt wr w.heap.size vB (.slice none 0 0) bs [] ∧ Below w.heap.size w wr
def BtM (w wa : World) (base : Nat) (vB : Value) (bs : List (List (List UInt8))) (gk : Nat) (vC vk : Value) (wr : World) : Prop :=
  ∃ (k : Nat) (cur : List (List UInt8)), vk = .int .i64 k ∧ k ≤ 3 ∧ gk = 3 - k ∧ cur.length = k ∧ (∀ r ∈ cur, 1 ≤ r.length ∧ r.length ≤ 6) ∧ ScSt wr base vB vC bs cur ∧ Below base w wr
def BtI (wb : World) (gk : Nat) (vr vj : Value) (wr : World) : Prop :=
  ∃ (j : Nat) (r : List UInt8), vj = .int .i64 j ∧ j ≤ 5 ∧ gk = 5 - j ∧ r.length = j + 1 ∧ Own wr wb.heap.size vr r ∧ Below wb.heap.size wb wr
theorem one_own (W : World) (x : UInt8) : Own (W.alloc (.cells #[bv x] 5)) W.heap.size (.slice (some ⟨W.heap.size, 0, none⟩) 1 1) [x] := by
  refine ⟨rfl, .inr ⟨W.heap.size, 1, #[bv x], rfl, Nat.le_refl _, Blk.new W _ _, by simp, by unfold maxLen; omega, rfl, rfl⟩⟩
set_option maxRecDepth 100000 in
set_option maxHeartbeats 4000000 in
theorem batchesS_any (A : Option Addr) (m c n : Nat) (w : World) (h : IntsAt w w.heap.size A m c) (hn : n ≤ 100) :
    Calls Try.prog 16 #[.slice A m c, .int .i64 (n : Int)] w fun e w' => ∃ v, e = .returned v ∧ ∃ bs, SmBs n bs ∧ ScSt w' w.heap.size v (.slice none 0 0) bs [] ∧ Below w.heap.size w w' := by
  have hm9 : (m : Int) ≤ 9223372036854775807 := by obtain ⟨_, _, h2, h3, _⟩ := h; omega
  have Hi := Lib.hid h
  clear h
  go_enter Try.func16, Try.ntmps16
  go_wp2
  go_loopg [5, 6] n (BtO w n)
  case atStart => exact ⟨0, [], rfl, by omega, by omega, rfl, by simp, ScSt.empty _ _, Below.refl _ _⟩
  case round =>
    obtain ⟨i, bs, rfl, hi, hgi, hbl, hok, hst, hbe⟩ := hrel
    have Hgi := Lib.hid hgi
    have Hbl := Lib.hid hbl
    have Hok := Lib.hid hok
    have Hst := Lib.hid hst
    have Hbe := Lib.hid hbe
    have hsz := hbe.size
    clear hgi hbl hok hst hbe
    by_cases hin : i < n
    · by_cases him : i < m
      · obtain ⟨b0, off, z, rfl, hb0, hcz, hz1, hz2⟩ := Hi.out.at him
        have him' : (i : Int) < (m : Int) := by omega
        have hin' : (i : Int) < (n : Int) := by omega
        go_wp2
        go_loopg [7, 8] 3 (BtM w wr w.heap.size u5 bs)
        case atStart => exact ⟨0, [], rfl, by omega, by omega, rfl, by simp, Hst.out, Hbe.out⟩
        case round =>
          obtain ⟨k, cur, rfl, hk, hgk, hcl, hcok, hst2, hbe2⟩ := hrel
          obtain ⟨A7, c7, rfl⟩ := hst2.formC
          rw [hcl]
          have Hgk := Lib.hid hgk
          have Hcl := Lib.hid hcl
          have Hcok := Lib.hid hcok
          rw [hcl] at hst2
          have Hst2 := Lib.hid hst2
          have Hbe2 := Lib.hid hbe2
          have hsz2 := hbe2.size
          have hcz2 := (hbe2.cell (p := ⟨b0, off + i, none⟩) hb0).trans hcz
          clear hgk hcl hcok hst2 hbe2
          go_wp2_with fail
          refine (pickN_any z 3 _ (by decide) (by decide)).mono ?_
          rintro e w1 ⟨d, rfl, hd, rfl⟩
          by_cases hkd : k ≤ d
          · have hkd' : (k : Int) ≤ (d : Int) := by omega
            have hk7 : ((7 : Int) + (k : Int) == 0) = false := by simp; omega
            go_wp2_with fail
            refine (pickN_any _ 256 _ (by decide) (by decide)).mono ?_
            rintro e w1 ⟨d2, rfl, hd2, rfl⟩
            obtain ⟨wb, rfl⟩ : ∃ wb, wb = wr := ⟨_, rfl⟩
            go_wp2
            go_loopg [9, 10] 5 (BtI wb)
            case atStart =>
              refine ⟨0, [UInt8.ofNat d2], rfl, by omega, by omega, rfl, ?_, (Below.refl _ _).alloc (Nat.le_refl _) _⟩
              have := one_own wb (UInt8.ofNat d2)
              rw [u8_small (by omega)] at this
              exact this
            case round =>
              obtain ⟨j, r, rfl, hj, hgj, hrl, hown, hbe3⟩ := hrel
              obtain ⟨A9, c9, rfl, _⟩ := own_form hown
              rw [hrl]
              have Hgj := Lib.hid hgj
              have Hrl := Lib.hid hrl
              have hown' : wr.ownsRow wb.heap.size 5 1 (.slice A9 (j + 1) c9) (j + 1) (r.map bv) := by unfold Own at hown; rwa [hrl] at hown
              have Hown := Lib.hid hown'
              have Hbe3 := Lib.hid hbe3
              have hsz3 := hbe3.size
              have hcz3 := (hbe3.cell (p := ⟨b0, off + i, none⟩) (by show b0 < wb.heap.size; omega)).trans hcz2
              clear hgj hrl hown hown' hbe3
              go_wp2_with fail
              refine (pickN_any _ 6 _ (by decide) (by decide)).mono ?_
              rintro e w1 ⟨d3, rfl, hd3, rfl⟩
              by_cases hjd : j < d3
              · have hjd' : (j : Int) < (d3 : Int) := by omega
                go_wp2_with fail
                refine (pickN_any _ 250 _ (by decide) (by decide)).mono ?_
                rintro e w1 ⟨d4, rfl, hd4, rfl⟩
                have hcs : #[Value.int .u8 ((d4 : Int) + (j : Int))] = ([UInt8.ofNat (d4 + j)].map bv).toArray := by
                  simp only [List.map_cons, List.map_nil, u8_small (show d4 + j ≤ 255 by omega)]
                  simp
                have Hcs := Lib.hid hcs
                have hlen : r.length + ([UInt8.ofNat (d4 + j)] : List UInt8).length ≤ 1048576 := by have := Hrl.out; simp; omega
                have hown2 : Own wr wb.heap.size (.slice A9 (j + 1) c9) r := by unfold Own; rw [Hrl.out]; exact Hown.out
                have Hown2 := Lib.hid hown2
                clear hcs hown2
                go_wp2_with (at_builtin; refine wpList_put (by rfl) _ _ (by rfl) wb.heap.size _ r [UInt8.ofNat (d4 + j)] _ Hcs.out (by rfl) Hown2.out _ (by rfl) _ (by rfl) (by rfl) hlen hsz3 ?_; clear Hcs Hown2; intro v5 w5 ho5 hf5; have Ho5 := Lib.hid ho5; have Hb5 := Lib.hid (Hbe3.out.trans hf5.1); clear ho5 hf5)
                go_roundg (5 - (j + 1))
                case measure => have := Hgj.out; omega
                case rel => exact ⟨j + 1, r ++ [UInt8.ofNat (d4 + j)], by go_num, by omega, rfl, by have := Hrl.out; simp; omega, Ho5.out, Hb5.out⟩
              · have hjd' : ¬ (j : Int) < (d3 : Int) := by omega
                have hown2 : Own wr wb.heap.size (.slice A9 (j + 1) c9) r := by unfold Own; rw [Hrl.out]; exact Hown.out
                have Hst3 := Lib.hid (Hst2.out.below Hbe3.out)
                have Hin3 := Lib.hid (Hst3.out.in1 hown2 hsz2)
                have hlen4 : cur.length + 1 ≤ 1048576 := by have := Hcl.out; omega
                have hszw : w.heap.size ≤ wr.heap.size := by omega
                clear hown2
                go_wp2_with (at_builtin; refine wpList_scPush (by rfl) _ _ (by rfl) w.heap.size _ _ bs cur (by rfl) Hst3.out r _ Hin3.out (by rfl) hlen4 hszw ?_; clear Hin3 Hst3; intro v4 w4 hst4 hb4 _; have Hst4 := Lib.hid hst4; have Hb4 := Lib.hid (Hbe2.out.trans ((Hbe3.out.mono hsz2).trans hb4)); clear hst4 hb4)
                go_roundg (3 - (k + 1))
                case measure => have := Hgk.out; omega
                case rel =>
                  refine ⟨k + 1, cur ++ [r], by go_num, by omega, rfl, by have := Hcl.out; simp; omega, ?_, Hst4.out, Hb4.out⟩
                  intro x hx
                  rcases List.mem_append.1 hx with h | h
                  · exact Hcok.out x h
                  · simp at h; subst h; have := Hrl.out; omega
          · have hkd' : ¬ (k : Int) ≤ (d : Int) := by omega
            have hlen5 : bs.length + 1 ≤ 1048576 := by have := Hbl.out; omega
            go_wp2_with (at_builtin; refine wpList_scFlush (by rfl) _ _ (by rfl) w.heap.size _ _ bs cur (by rfl) Hst2.out (by rfl) hlen5 hsz2 ?_; clear Hst2; intro v5 w5 hst5 hb5 _; have Hst5 := Lib.hid hst5; have Hb5 := Lib.hid (Hbe2.out.trans hb5); clear hst5 hb5)
            go_roundg (n - (i + 1))
            case measure => have := Hgi.out; omega
            case rel =>
              refine ⟨i + 1, bs ++ [cur], by go_num, by omega, rfl, by have := Hbl.out; simp; omega, ?_, Hst5.out, Hb5.out⟩
              intro x hx
              rcases List.mem_append.1 hx with h | h
              · exact Hok.out x h
              · simp at h; subst h
                have hcl := Hcl.out
                exact ⟨by intro h0; subst h0; simp at hcl; omega, by omega, Hcok.out⟩
      · have him' : ¬ (i : Int) < (m : Int) := by omega
        go_wp2
        go_ret
        exact ⟨_, rfl, bs, ⟨by have := Hbl.out; omega, Hok.out⟩, Hst.out, Hbe.out⟩
    · have hin' : ¬ (i : Int) < (n : Int) := by omega
      go_wp2
      all_goals
        go_ret
        exact ⟨_, rfl, bs, ⟨by have := Hbl.out; omega, Hok.out⟩, Hst.out, Hbe.out⟩
theorem batches_any (A : Option Addr) (m c n : Nat) (w : World) (h : IntsAt w w.heap.size A m c) (hn : n ≤ 100) :
    Calls Try.prog 16 #[.slice A m c, .int .i64 (n : Int)] w fun e w' => ∃ v, e = .returned v ∧ ∃ bs, SmBs n bs ∧ In3 w' (newB w w') bs v ∧ Below w.heap.size w w' := by
  refine (batchesS_any A m c n w h hn).mono ?_
  rintro e w' ⟨v, rfl, bs, h1, h2, h3⟩
  exact ⟨v, rfl, bs, h1, h2.built, h3⟩
end Go.Proofs.Ytbdbcffnjibjoaa
