/- Sorted tables: Begin at every table and head. -/
import Derived.Test.YtecpccdmmaigiaaRwFind
namespace Go.Proofs.Ytecpccdmmaigiaa
set_option linter.unusedVariables false
set_option linter.unusedSimpArgs false
open Go.RowKit
/-- What Begin answers. -/
def begN (l : List Rw) (h : List UInt8) : List Rw × Int := if chkT l ≠ 0 then ([], chkT l) else (l.filter (fun r => h.isPrefixOf r.key), 0)
theorem rw_le {w : World} {base base' e size n : Nat} {v : Value} {xs : List Value} (h : w.ownsRow base e size v n xs) (hb : base' ≤ base) : w.ownsRow base' e size v n xs := by
  refine ⟨h.1, ?_⟩
  rcases h.2 with h0 | ⟨g, c, cur, h1, h2, h3⟩
  · exact .inl h0
  · exact .inr ⟨g, c, cur, h1, Nat.le_trans hb h2, h3⟩
/-- Rows of a list, cut out of it. -/
theorem RIn.cut {w : World} {B n c : Nat} {A : Option Addr} {l : List Rw} (h : RIn w B A n c l) {lo hg : Nat} (h1 : lo ≤ hg) (h2 : hg ≤ n) :
    RIn w B (cutAt A c lo 2) (hg - lo) (c - lo) ((l.take hg).drop lo) := by
  obtain ⟨k1, k2, k3, k4⟩ := h
  refine ⟨by rw [List.length_drop, List.length_take]; omega, by omega, fun hA => ?_, ?_⟩
  · have := k3 (cutAt_none hA); omega
  · have := k4.cut h1 h2 k2
    rw [pcR_drop, pcR_take] at this
    rwa [List.drop_take]
theorem begin_ok {l : List Rw} (h0 : chkT l = 0) (h : List UInt8) : begN l h = (l.filter (fun r => h.isPrefixOf r.key), 0) := by unfold begN; rw [if_neg (by simp [h0])]
set_option maxHeartbeats 2000000 in
set_option maxRecDepth 100000 in
theorem begin_any (A : Option Addr) (n c B : Nat) (l : List Rw) (k : List UInt8) (w : World) (hl : RIn w B A n c l) (hB : B ≤ w.heap.size) (hs : Short l) (hn : n ≤ 9223372036854775807) :
    Calls Try.prog 21 #[.slice A n c, str k] w fun e w' => ∃ v, e = .returned (.tuple #[v, .int .i64 (begN l k).2]) ∧ w'.ownsRow w.heap.size 40 2 v (begN l k).1.length (pcR (begN l k).1) ∧ Below w.heap.size w w' := by
  have hln := hl.1
  obtain ⟨W, hW⟩ : ∃ W, W = w.alloc (.cells #[str k] 9) := ⟨_, rfl⟩
  have hWb : Below w.heap.size w W := by rw [hW]; exact (Below.refl _ _).alloc (Nat.le_refl _) _
  have hBk : Blk W w.heap.size 9 #[str k] := by rw [hW]; exact Blk.new w _ _
  have H1 := Lib.hid (check_any A n c B l W (hl.below (hWb.mono hB)) (by have := hWb.size; omega) hs hn)
  have Hl := Lib.hid hl
  have HWb := Lib.hid hWb
  have HW := Lib.hid hW
  have HBk := Lib.hid hBk
  have hWs := hWb.size
  clear hl hs hW hWb hBk
  by_cases h0 : chkT l = 0
  · have HF := Lib.hid (chkT_fit h0)
    have HR := Lib.hid (begin_ok h0 k)
    rw [h0] at H1
    have hn40 : n ≤ 40 := by have := HF.out.len; omega
    obtain ⟨i0, hi0, _, hzs, _⟩ := info_parts info_row
    have H2 := Lib.hid (show ∀ W1, Below W.heap.size W W1 → Calls Try.prog 37 #[.slice A n c, .func (.func 40) #[] #[.pointer (some ⟨w.heap.size, 0, none⟩)]] W1 fun e w' => e = .returned (.int .i64 (l.countP (fun r => Op.bytesLess r.key k) : Nat)) ∧ Below W1.heap.size W1 w' from fun W1 hb1 => by
      have hB1 := HBk.out.below hb1 HBk.out.lt
      have := firstFit_any _ (ge_mono k) A n c B l W1 (Hl.out.below ((HWb.out.trans (hb1.mono hWs)).mono hB)) (by have := hb1.size; omega) HF.out.srt (by omega) _ _ (fits_beg1 hB1.lt (hB1.cell 0))
      simp only [Bool.not_not] at this
      exact this)
    have H3 := Lib.hid (show ∀ W1, Below W.heap.size W W1 → Calls Try.prog 37 #[.slice A n c, .func (.func 41) #[] #[.pointer (some ⟨w.heap.size, 0, none⟩)]] W1 fun e w' => e = .returned (.int .i64 (l.countP (fun r => !(!Op.bytesLess r.key k && !k.isPrefixOf r.key)) : Nat)) ∧ Below W1.heap.size W1 w' from fun W1 hb1 => by
      have hB1 := HBk.out.below hb1 HBk.out.lt
      exact firstFit_any _ (beg_mono k) A n c B l W1 (Hl.out.below ((HWb.out.trans (hb1.mono hWs)).mono hB)) (by have := hb1.size; omega) HF.out.srt (by omega) _ _ (fits_beg2 hB1.lt (hB1.cell 0)))
    have hle := beg_le k l
    have hle2 : l.countP (fun r => !(!Op.bytesLess r.key k && !k.isPrefixOf r.key)) ≤ n := by rw [← hln]; exact List.countP_le_length
    have HC := Lib.hid (beg_cut k HF.out.srt)
    generalize l.countP (fun r => Op.bytesLess r.key k) = lo at *
    generalize l.countP (fun r => !(!Op.bytesLess r.key k && !k.isPrefixOf r.key)) = hg at *
    have hcl := Hl.out.2.1
    have hcut := fun W1 => run_cut_lh (P := Try.prog) W1 22 40 i0 Try.underlying22 hi0 A n c .i64 .i64 (lo : Int) (hg : Int) lo hg rfl rfl hle (by omega)
    rw [hzs] at hcut
    have hfl : (l.filter (fun r => k.isPrefixOf r.key)).length = hg - lo := by rw [← HC.out, List.length_drop, List.length_take]; omega
    have H4 := Lib.hid (show ∀ W1, Below W.heap.size W W1 → Calls Try.prog 35 #[.slice (cutAt A c lo 2) (hg - lo) (c - lo)] W1 fun e w' => ∃ v, e = .returned v ∧ w'.ownsRow W1.heap.size 40 2 v (begN l k).1.length (pcR (begN l k).1) ∧ Below W1.heap.size W1 w' from fun W1 hb1 => by
      have hr := (Hl.out.below ((HWb.out.trans (hb1.mono hWs)).mono hB)).cut hle hle2
      rw [HR.out, hfl, ← HC.out]
      exact copied_any _ _ _ B _ W1 hr (by have := hb1.size; omega) (fun r hr => HF.out.shortR r (List.mem_of_mem_take (List.mem_of_mem_drop hr))) (by omega))
    have hR2 : (begN l k).2 = 0 := by rw [HR.out]
    rw [hR2]
    generalize (begN l k).1 = X at *
    generalize cutAt A c lo 2 = A2 at *
    clear hR2 hfl HR HC hle2
    go_enter Try.func21, Try.ntmps21
    go_wp2_with fail
    rw [← HW.out]
    refine H1.out.mono ?_
    rintro e w1 ⟨rfl, hb1⟩
    have Hb1 := Lib.hid hb1
    have H2' := Lib.hid (H2.out w1 hb1)
    clear hb1 H1 H2
    go_wp2_with fail
    refine H2'.out.mono ?_
    rintro e w2 ⟨rfl, hb2⟩
    have Hb2 := Lib.hid (Hb1.out.trans (hb2.mono Hb1.out.size))
    have H3' := Lib.hid (H3.out w2 Hb2.out)
    clear hb2 H2' H3
    go_wp2_with fail
    refine H3'.out.mono ?_
    rintro e w3 ⟨rfl, hb3⟩
    have Hb3 := Lib.hid (Hb2.out.trans (hb3.mono Hb2.out.size))
    have H4' := Lib.hid (H4.out w3 Hb3.out)
    clear hb3 H3' H4
    go_wp2_with fail
    refine H4'.out.mono ?_
    rintro e w4 ⟨v, rfl, ho, hb4⟩
    have Ho := Lib.hid ho
    have Hw3 := Lib.hid (HWb.out.trans (Hb3.out.mono hWs))
    have Hb4 := Lib.hid (Hw3.out.trans (hb4.mono Hw3.out.size))
    clear ho hb4
    go_wp2_with fail
    go_ret2
    exact ⟨v, rfl, rw_le Ho.out Hw3.out.size, Hb4.out⟩
  · have HR := Lib.hid (show begN l k = ([], chkT l) by unfold begN; rw [if_pos h0])
    generalize chkT l = x at *
    have h0b : (x == 0) = false := by simpa using h0
    go_enter Try.func21, Try.ntmps21
    go_wp2_with fail
    rw [← HW.out]
    refine H1.out.mono ?_
    rintro e w1 ⟨rfl, hb1⟩
    have Hb1 := Lib.hid hb1
    clear hb1 H1
    go_wp2_with fail
    go_ret2
    exact ⟨.slice none 0 0, by rw [HR.out] <;> rfl, by rw [HR.out]; exact World.ownsRow_nil _ _ _ _, HWb.out.trans (Hb1.out.mono hWs)⟩
end Go.Proofs.Ytecpccdmmaigiaa
