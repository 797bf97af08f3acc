/- Package wal: the statements' own helpers: cutBytes; Pack of one record of one byte; Scan of a short text. -/
import Derived.Test.YtbdbcffnjibjoaaWlScan
import Derived.Test.YtbdbcffnjibjoaaWlPack
import Derived.Test.YtbdbcffnjibjoaaWlBd
import Derived.Test.YtbdbcffnjibjoaaPicked
namespace Go.Proofs.Ytbdbcffnjibjoaa
set_option linter.unusedVariables false
set_option linter.unusedSimpArgs false
open Go.RowKit
theorem own_capN {w : World} {base e size n c : Nat} {A : Option Addr} {xs : List Value} (h : w.ownsRow base e size (.slice A n c) n xs) : n ≤ c := by
  rcases h.2 with ⟨h1, h2⟩ | ⟨g, cap, cur, hv, _, _, hnc, _⟩
  · injection h1; omega
  · injection hv; omega
theorem Own.holdsN {w : World} {b n c : Nat} {A : Option Addr} {l : List UInt8} (h : Own w b (.slice A n c) l) (hn : l.length = n) : Holds w w.heap.size 1 A n (l.map bv) := by
  unfold Own at h
  rw [hn] at h
  exact Holds.own h
set_option maxHeartbeats 1000000 in
theorem wlCut_any (A : Option Addr) (n c : Nat) (l : List UInt8) (w : World) (hh : Holds w w.heap.size 1 A n (l.map bv)) (hnc : n ≤ c) (hA : A = none → c = 0) :
    Calls Try.prog 20 #[.slice A n c] w fun e w' => ∃ A' c', e = .returned (.slice A' (l.take 200).length c') ∧ Own w' w.heap.size (.slice A' (l.take 200).length c') (l.take 200) ∧ (l.take 200).length ≤ c' ∧ (A' = none → c' = 0) ∧ Below w.heap.size w w' := by
  obtain ⟨i0, hi0, hz0, hz1, hz2⟩ := info_parts info_u8
  obtain ⟨m, hm'⟩ : ∃ m : Nat, m = min n 200 := ⟨_, rfl⟩
  have hmin : (if (200 : Int) < (n : Int) then (200 : Int) else (n : Int)) = (m : Int) := by split <;> omega
  have hle : m ≤ 200 := by omega
  have hln : m ≤ n := by omega
  have hx := hh.first hln
  have hL := hh.len
  have ht : l.take m = l.take 200 := by rw [hm', ← hL, ← List.take_take]; exact List.take_of_length_le (by rw [List.length_take]; omega)
  have hxl : (l.take m).length = m := by rw [List.length_take]; omega
  rw [ht] at hx hxl
  generalize l.take 200 = x at *
  have Hxl := Lib.hid hxl
  clear hxl hL hh ht hm'
  have hs0 := fun W => run_cut_h (P := Try.prog) W 23 5 i0 Try.underlying23 hi0 A n c .i64 (m : Int) m rfl (by omega)
  go_enter Try.func20, Try.ntmps20
  go_wp2_with (at_builtin
               refine wpList_append_nil w rfl _ _ rfl 5 i0 _ 1 1 Try.underlying23 hi0 hz0 hz1 hz2 rfl (by decide) w.heap.size A m c (x.map bv) hx (by rfl) hA (bv_one x) (by omega) (by decide) ?_
               intro B0 d0 w1 hown1 hh1 hB0 hb1)
  go_ret
  have hlen := Hxl.out
  subst hlen
  exact ⟨B0, d0, rfl, hown1, own_capN hown1, hB0, hb1⟩
/-- Of a text that is short already. -/
theorem wlCut_own (A : Option Addr) (c : Nat) (l : List UInt8) (w : World) (hl : l.length ≤ 200) (hh : Holds w w.heap.size 1 A l.length (l.map bv)) (hnc : l.length ≤ c) (hA : A = none → c = 0) :
    Calls Try.prog 20 #[.slice A l.length c] w fun e w' => ∃ A' c', e = .returned (.slice A' l.length c') ∧ Own w' w.heap.size (.slice A' l.length c') l ∧ l.length ≤ c' ∧ (A' = none → c' = 0) ∧ Below w.heap.size w w' := by
  have := wlCut_any A l.length c l w hh hnc hA
  rwa [List.take_of_length_le hl] at this
theorem scanS_any (A : Option Addr) (c : Nat) (l : List UInt8) (w : World) (hh : Holds w w.heap.size 1 A l.length (l.map bv)) (hnc : l.length ≤ c) (hl : l.length ≤ 1200) :
    Calls Try.prog 13 #[.slice A l.length c] w fun e w' => ∃ v, e = .returned (.tuple #[v, .int .i64 (scan l).2, .int .i64 0]) ∧ In3 w' (newB w w') (scan l).1 v ∧ Below w.heap.size w w' := by
  have := wlScan_any A l.length c l w hh hnc (by omega)
  have e : scanR l = ((scan l).1, (scan l).2, 0) := by unfold scanR; rw [if_neg (by omega)]
  rwa [e] at this
/-- 'wal.Pack([][]byte{{0}})', where the literal has been laid. -/
theorem packOne (W : World) :
    Calls Try.prog 10 #[.slice (some ⟨W.heap.size + 1, 0, none⟩) 1 1] ((W.alloc (.cells #[.int .u8 0] 5)).alloc (.cells #[.slice (some ⟨W.heap.size, 0, none⟩) 1 1] 23))
      fun e w' => ∃ A c, e = .returned (.tuple #[.slice A 5 c, .int .i64 0]) ∧ Below W.heap.size W w' := by
  obtain ⟨Y, hY⟩ : ∃ Y, Y = (W.alloc (.cells #[.int .u8 0] 5)).alloc (.cells #[.slice (some ⟨W.heap.size, 0, none⟩) 1 1] 23) := ⟨_, rfl⟩
  have hs : Y.heap.size = W.heap.size + 2 := by rw [hY]; simp
  have hb : Below W.heap.size W Y := by rw [hY]; exact ((Below.refl _ _).alloc (Nat.le_refl _) _).alloc (by simp) _
  have k1 : Blk Y W.heap.size 5 #[.int .u8 0] := by rw [hY]; exact (Blk.new W _ _).alloc _
  have k2 : Blk Y (W.heap.size + 1) 23 #[.slice (some ⟨W.heap.size, 0, none⟩) 1 1] := by
    rw [hY]
    have := Blk.new (W.alloc (.cells #[.int .u8 0] 5)) 23 #[.slice (some ⟨W.heap.size, 0, none⟩) 1 1]
    simpa using this
  have h1 : HoldsS Y (lowB Y.heap.size) 1 (some ⟨W.heap.size + 1, 0, none⟩) 1 [.slice (some ⟨W.heap.size, 0, none⟩) 1 1] := by
    refine ⟨rfl, fun _ => ⟨_, _, rfl, by show _ < _; omega, fun j u hu => ?_⟩⟩
    match j, hu with
    | 0, hu => simp at hu; subst hu; exact k2.cell 0
  have h0 : HoldsS Y (lowB Y.heap.size) 1 (some ⟨W.heap.size, 0, none⟩) 1 ([(0 : UInt8)].map bv) := by
    refine ⟨rfl, fun _ => ⟨_, _, rfl, by show _ < _; omega, fun j u hu => ?_⟩⟩
    match j, hu with
    | 0, hu => simp at hu; subst hu; exact k1.cell 0
  have ha : Ats (In1 Y (lowB Y.heap.size)) [[(0 : UInt8)]] [.slice (some ⟨W.heap.size, 0, none⟩) 1 1] := by
    refine ⟨rfl, fun i x v hx hv => ?_⟩
    match i, hx, hv with
    | 0, hx, hv => simp at hx hv; subst hx hv; exact ⟨_, _, rfl, by simp, fun h => (by cases h), h0⟩
  rw [← hY]
  refine (pack_any (some ⟨W.heap.size + 1, 0, none⟩) 1 1 Y.heap.size [[0]] _ Y h1 ha rfl (Nat.le_refl _) (by omega) (by simp)).mono ?_
  rintro e w' ⟨v', rfl, ho, hb'⟩
  have e1 : packR [[0]] = (pack [[0]], 0) := by unfold packR; rw [if_pos (by decide)]
  have e2 : (pack [[0]]).length = 5 := by rw [pack_len]; rfl
  rw [e1] at ho ⊢
  obtain ⟨A, c, rfl, _⟩ := own_form ho
  simp only [e2] at ho ⊢
  exact ⟨A, c, rfl, hb.trans (hb'.mono hb.size)⟩
end Go.Proofs.Ytbdbcffnjibjoaa
