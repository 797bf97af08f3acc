/- Proved here: for every list of raw numbers, every place and every byte: a changed byte of packed batches leaves those ahead of it as they were, and other batches are told unless the byte stays what it was (statement WalSeen). No condition. -/
import Derived.Test.YtbdbcffnjibjoaaWlKp
import Derived.Test.YtbdbcffnjibjoaaOpenI
import Derived.Test.YtbdbcffnjibjoaaRows
import Derived.ChangeSame
namespace Go.Proofs.Ytbdbcffnjibjoaa
set_option linter.unusedVariables false
set_option linter.unusedSimpArgs false
open Go.RowKit
/-- What a scan tells of packed batches with one byte changed. -/
theorem seen (bs : List (List (List UInt8))) (hok : ∀ b ∈ bs, okBatch b) (n k : Nat) (h1 : (packs (bs.take n)).length ≤ k) (hk : k < (packs bs).length) (y : UInt8) :
    (∃ z, (scan ((packs bs).set k y)).1 = bs.take n ++ z) ∧ ((scan ((packs bs).set k y)).1 = bs ↔ y = (packs bs)[k]) := by
  have hok1 : ∀ b ∈ bs.take n, okBatch b := fun b hb => hok b (List.mem_of_mem_take hb)
  refine ⟨?_, ?_, ?_⟩
  · have e0 : packs bs = packs (bs.take n) ++ packs (bs.drop n) := by rw [← packs_app, List.take_append_drop]
    have e1 : (packs bs).set k y = packs (bs.take n) ++ (packs (bs.drop n)).set (k - (packs (bs.take n)).length) y := by
      conv => lhs; rw [e0]
      rw [List.set_append_right _ _ h1]
    rw [e1, scan_packs _ hok1]
    exact ⟨_, rfl⟩
  · intro h
    have h2 := scan_other bs _ (by simp) h
    have h3 : ((packs bs).set k y)[k]? = (packs bs)[k]? := by rw [h2]
    rw [List.getElem?_set_self (by simpa using hk), List.getElem?_eq_getElem hk] at h3
    injection h3
  · intro h
    have h2 : (packs bs).set k y = packs bs := by rw [h]; exact List.set_getElem_self hk
    rw [h2, scan_whole bs hok]
theorem xor_same (a b : UInt8) : (a ^^^ b = a) ↔ b = 0 := by
  constructor
  · intro h
    have h2 : a ^^^ (a ^^^ b) = a ^^^ a := by rw [h]
    rwa [← UInt8.xor_assoc, UInt8.xor_self, UInt8.zero_xor] at h2
  · rintro rfl
    exact UInt8.xor_zero
def SnR (w : World) (bs : List (List (List UInt8))) (m K : Nat) (gk : Nat) (vi : Value) (wr : World) : Prop :=
  ∃ i : Nat, vi = .int .i64 i ∧ i ≤ m ∧ gk = m - i ∧ (packs (bs.take i)).length ≤ K ∧ w = wr
set_option maxRecDepth 100000 in
set_option maxHeartbeats 4000000 in
theorem walkWalSeen (A0 : Option Addr) (n0 c0 : Nat) (x1 : Int) (x2 : UInt8) (w : World) (hx0 : IntsAt w w.heap.size A0 n0 c0) (hx1 : -9223372036854775808 ≤ x1 ∧ x1 ≤ 9223372036854775807) :
    Calls Try.prog 7 #[.slice A0 n0 c0, .int .i64 x1, bv x2] w fun e w' => e = .returned (.bool true) ∧ Below w.heap.size w w' := by
  have H0 := Lib.hid (batchesS_any A0 n0 c0 8 w hx0 (by decide))
  clear hx0 hx1
  obtain ⟨i0, hi0, hz0, hz1, hz2⟩ := info_parts info_u8
  obtain ⟨i1, hi1, hy0, hy1, hy2⟩ := info_parts info_rows
  go_enter Try.func7, Try.ntmps7
  go_wp2_with fail
  refine H0.out.mono ?_
  rintro e w1 ⟨v1, rfl, bs0, hsm0, hst1, hb1⟩
  obtain ⟨AZ, cZ, rfl⟩ := hst1.formB
  obtain ⟨Wm, hWm⟩ : ∃ Wm, Wm = (w1.alloc (.cells #[.int .u8 1, .int .u8 2] 5)).alloc (.cells #[.slice (some ⟨w1.heap.size, 0, none⟩) 2 2] 23) := ⟨_, rfl⟩
  have hsm : Wm.heap.size = w1.heap.size + 2 := by rw [hWm]; simp
  have hbm : Below w1.heap.size w1 Wm := by rw [hWm]; exact ((Below.refl _ _).alloc (Nat.le_refl _) _).alloc (by simp) _
  have k1 : Blk Wm w1.heap.size 5 #[.int .u8 1, .int .u8 2] := by rw [hWm]; exact (Blk.new w1 _ _).alloc _
  have k2 : Blk Wm (w1.heap.size + 1) 23 #[.slice (some ⟨w1.heap.size, 0, none⟩) 2 2] := by
    rw [hWm]
    have := Blk.new (w1.alloc (.cells #[.int .u8 1, .int .u8 2] 5)) 23 #[.slice (some ⟨w1.heap.size, 0, none⟩) 2 2]
    simpa using this
  have hstm : ScSt Wm w.heap.size (.slice AZ bs0.length cZ) (.slice (some ⟨w1.heap.size + 1, 0, none⟩) 1 1) bs0 [[1, 2]] := by
    obtain ⟨csB, csC, h1, h2, _, _⟩ := hst1
    have h1' := wl_below h1 hbm
    have hm' : ∀ b, offOf w.heap.size w1 (.slice AZ bs0.length cZ) (.slice none 0 0) b → offOf w.heap.size Wm (.slice AZ bs0.length cZ) (.slice (some ⟨w1.heap.size + 1, 0, none⟩) 1 1) b := fun b hb => ⟨hb.1, by have := hb.2.1; omega, hb.2.2.1, fun e => by
      simp [Value.ownBlock] at e; have := hb.2.1; omega⟩
    refine ⟨csB, [.slice (some ⟨w1.heap.size, 0, none⟩) 2 2], h1', stays2.ats h2 (fun p hp => hbm.cell hp.2.1) hm', ?_, ?_⟩
    · exact ⟨rfl, .inr ⟨w1.heap.size + 1, 1, _, rfl, by have := hb1.size; omega, k2, by simp, by unfold maxLen; omega, rfl, rfl⟩⟩
    · refine ⟨rfl, fun i x v hx hv => ?_⟩
      match i, hx, hv with
      | 0, hx, hv =>
        simp at hx hv
        subst hx hv
        refine ⟨some ⟨w1.heap.size, 0, none⟩, 2, rfl, by simp, fun h => (by cases h), rfl, fun _ => ⟨_, _, rfl, ⟨hb1.size, by omega, fun e => ?_, by simp [Value.ownBlock]⟩, fun j u hu => ?_⟩⟩
        · have := (h1.lt _ e.symm).2
          omega
        · rw [k1.cell, Nat.zero_add]
          match j, hu with
          | 0, hu => simpa [bv] using hu
          | 1, hu => simpa [bv] using hu
  have Hstm := Lib.hid hstm
  have Hb1 := Lib.hid (hb1.trans (hbm.mono hb1.size))
  have hs1 := Hb1.out.size
  have hlen8 : bs0.length + 1 ≤ 1048576 := by have := hsm0.1; omega
  have Hsm := Lib.hid (show SmBs 9 (bs0 ++ [[[1, 2]]]) from ⟨by have := hsm0.1; simp; omega, fun b hb => by
    rcases List.mem_append.1 hb with h | h
    · exact hsm0.2 b h
    · simp at h; subst h; exact ⟨by simp, by simp, by simp⟩⟩)
  clear hst1 hstm hb1 hbm k1 k2 hsm0 H0
  go_wp2_with (at_builtin; rw [← hWm]; refine wpList_scFlush (by rfl) _ _ (by rfl) w.heap.size _ _ bs0 [[1, 2]] (by rfl) Hstm.out (by rw [hsm]; rfl) hlen8 hs1 ?_; clear Hstm; intro v2 w2 hst2 hb2 _; have Hst2 := Lib.hid hst2; have Hb2 := Lib.hid (Hb1.out.trans hb2); clear hst2 hb2)
  have hne : bs0 ++ [[[1, 2]]] ≠ [] := by simp
  generalize bs0 ++ [[[(1 : UInt8), 2]]] = bs at *
  have hin2 : In3 w2 (lowB w2.heap.size) bs v2 := stays3.2 _ _ _ _ _ Hst2.out.built fun b hb => hb.2
  obtain ⟨A1, c1, rfl, hc1⟩ := hin2.formA
  have hs2 := Hb2.out.size
  have H1 := Lib.hid (packed_any bs _ 9 w2.heap.size w2 Hsm.out (by decide) hin2 (Nat.le_refl _))
  have Hbd := Lib.hid (Hsm.out.bd (by decide))
  have hok : ∀ b ∈ bs, okBatch b := fun b hb => (Hsm.out.2 b hb).ok
  have hL1 := (packs_ge bs hok).1
  have Hok := Lib.hid hok
  have hps := packs_small bs Hsm.out.2
  obtain ⟨m, hm⟩ : ∃ m, bs.length = m := ⟨_, rfl⟩
  have hm9 : m ≤ 9 := by have := Hsm.out.1; omega
  have hm1 : 1 ≤ m := by have := List.length_pos_iff.2 hne; omega
  obtain ⟨L, hL⟩ : ∃ L, (packs bs).length = L := ⟨_, rfl⟩
  rw [hm] at hc1 hL1 hps hin2 H1 ⊢
  rw [hL] at hL1 hps H1
  have hL270 : L ≤ 270 := by omega
  have Hm := Lib.hid hm
  have HL := Lib.hid hL
  have Hin2 := Lib.hid hin2
  clear hin2 hm hL hok hps hne Hsm Hst2 hWm hsm
  go_wp2_with fail
  refine H1.out.mono ?_
  rintro e w3 ⟨A2, c2, AE, cE, rfl, ho3, hE3, hb3⟩
  have Ho3 := Lib.hid ho3
  have HE3 := Lib.hid hE3
  have Hin3 := Lib.hid (Hin2.out.farL hb3)
  have Hb3 := Lib.hid (Hb2.out.trans (hb3.mono hs2))
  have hs23 := hb3.size
  have hs3 := Hb3.out.size
  clear ho3 hE3 hb3 H1 Hin2 Hb2
  have hL0 : ((L : Int) == 0) = false := by simp; omega
  have hK0 := Int.emod_nonneg x1 (show (L : Int) ≠ 0 by omega)
  have hK1 := Int.emod_lt_of_pos x1 (show (0 : Int) < (L : Int) by omega)
  obtain ⟨K, hK⟩ : ∃ K : Nat, x1 % (L : Int) = K := ⟨(x1 % (L : Int)).toNat, by omega⟩
  have hKL : K < L := by omega
  have HK := Lib.hid hK
  clear hK hK0 hK1
  go_wp2_with fail
  refine (picked_any x1 _ _ (by omega) (by omega)).mono ?_
  rintro e w4 ⟨rfl, rfl⟩
  rw [HK.out]
  obtain ⟨gE, cE', hvE, _, hcE, _, hcellE⟩ := own_place HE3.out (by omega)
  injection hvE with hvE1 _ hvE3
  subst hvE1 hvE3
  have HcE := Lib.hid hcellE
  clear hcellE
  go_wp2
  go_loopg [12] m (SnR w3 bs m K)
  case atStart => exact ⟨0, rfl, by omega, by omega, by simp [packs], rfl⟩
  case round =>
    obtain ⟨n, rfl, hn, hgn, hnK, rfl⟩ := hrel
    have Hgn := Lib.hid hgn
    have HnK := Lib.hid hnK
    clear hgn hnK
    by_cases hmore : n < m ∧ (packs (bs.take (n + 1))).length ≤ K
    · obtain ⟨hnm, hle⟩ := hmore
      have hce := HcE.out (n + 1) _ (endsV_at bs m (n + 1) (by omega))
      have Hle := Lib.hid hle
      obtain ⟨q, hq⟩ : ∃ q, (packs (bs.take (n + 1))).length = q := ⟨_, rfl⟩
      rw [hq] at hce hle
      clear hq
      go_wp2
      go_roundg (m - (n + 1))
      case measure => have := Hgn.out; omega
      case rel => exact ⟨n + 1, by go_num, by omega, rfl, Hle.out, rfl⟩
    · have hnm : n < m := by
        rcases Nat.lt_or_ge n m with h | h
        · exact h
        · have h1 := HnK.out
          rw [List.take_of_length_le (by rw [Hm.out]; exact h), HL.out] at h1
          omega
      have hgt : K < (packs (bs.take (n + 1))).length := by
        rcases Nat.lt_or_ge K (packs (bs.take (n + 1))).length with h1 | h1
        · exact h1
        · exact absurd ⟨hnm, h1⟩ hmore
      have hce := HcE.out (n + 1) _ (endsV_at bs m (n + 1) (by omega))
      obtain ⟨q, hq⟩ : ∃ q, (packs (bs.take (n + 1))).length = q := ⟨_, rfl⟩
      rw [hq] at hce hgt
      have hKP : K < (packs bs).length := by rw [HL.out]; exact hKL
      obtain ⟨hsee1, hsee2⟩ := seen bs Hok.out n K HnK.out hKP ((packs bs)[K] ^^^ x2)
      have hxs := xor_same (packs bs)[K] x2
      have hscl : ((packs bs).set K ((packs bs)[K] ^^^ x2)).length = L := by rw [List.length_set, HL.out]
      have hrow3 : w3.ownsRow w2.heap.size 5 1 (.slice A2 L c2) L ((packs bs).map bv) := by have := Ho3.out; unfold Own at this; rwa [HL.out] at this
      have hh3 := Holds.own hrow3
      have hnil3 := own_nilcap hrow3
      have Hh3 := Lib.hid hh3
      obtain ⟨X, hX⟩ : ∃ X, (packs bs)[K].toNat = X := ⟨_, rfl⟩
      obtain ⟨Z, hZ⟩ : ∃ Z, x2.toNat = Z := ⟨_, rfl⟩
      have hXl := (packs bs)[K].toNat_lt
      have hZl := x2.toNat_lt
      rw [hX] at hXl
      rw [hZ] at hZl
      have hbX : bv (packs bs)[K] = .int .u8 (X : Int) := by unfold bv; rw [hX]
      have hbZ : bv x2 = .int .u8 (Z : Int) := by unfold bv; rw [hZ]
      have hxor : bits .xor .u8 (X : Int) (Z : Int) = ((X ^^^ Z : Nat) : Int) := u8_xor_nat X Z hXl hZl
      have hbV : bv ((packs bs)[K] ^^^ x2) = .int .u8 ((X ^^^ Z : Nat) : Int) := by unfold bv; rw [UInt8.toNat_xor, hX, hZ]
      have hset : ((packs bs).map bv).set K (.int .u8 ((X ^^^ Z : Nat) : Int)) = ((packs bs).set K ((packs bs)[K] ^^^ x2)).map bv := by rw [← hbV, ← List.map_set]
      have hbK : ((packs bs).map bv)[K]? = some (.int .u8 (X : Int)) := by rw [List.getElem?_map, List.getElem?_eq_getElem hKP]; simp [hbX]
      obtain ⟨V, hV⟩ : ∃ V, (packs bs)[K] ^^^ x2 = V := ⟨_, rfl⟩
      rw [hV] at hsee1 hsee2 hscl hset
      obtain ⟨C, hC⟩ : ∃ C, (packs bs).set K V = C := ⟨_, rfl⟩
      rw [hC] at hsee1 hsee2 hscl hset
      have hbdR := scan_bd C (by omega)
      obtain ⟨R, hR⟩ : ∃ R, (scan C).1 = R := ⟨_, rfl⟩
      rw [hR] at hsee1 hsee2 hbdR
      obtain ⟨z, hz⟩ := hsee1
      have hnl : (bs.take n).length = n := by rw [List.length_take, Hm.out]; omega
      have hRn : n ≤ R.length := by rw [hz, List.length_append, hnl]; omega
      have hRt : R.take n = bs.take n := by rw [hz]; exact List.take_left' hnl
      have hfin : (R == bs) = ((Z : Int) == 0) := by
        have h3 : (V = (packs bs)[K]) ↔ x2 = 0 := by rw [← hV]; exact hxs
        have h4 : R = bs ↔ Z = 0 := by
          rw [hsee2, h3, ← hZ]
          constructor
          · intro h; rw [h]; rfl
          · intro h; exact u8_eq (by rw [h]; rfl)
        by_cases h : Z = 0
        · rw [beq_iff_eq.2 (h4.2 h), h]; rfl
        · rw [beq_eq_false_iff_ne.2 (fun h' => h (h4.1 h')), beq_eq_false_iff_ne.2 (by omega)]
      rw [hbZ]
      have Hset := Lib.hid hset
      have HbK := Lib.hid hbK
      have Hcl := Lib.hid hscl
      have HR := Lib.hid hR
      have Hfin := Lib.hid hfin
      have HRt := Lib.hid hRt
      have HbdR := Lib.hid hbdR
      have HgE := Lib.hid (HE3.out.lt gE rfl).2
      have hLm : L ≤ 1048576 := by omega
      have hL0' : 0 < L := by omega
      have hhC : ∀ W A c, W.ownsRow w3.heap.size 5 1 (.slice A L c) L (C.map bv) → Holds W W.heap.size 1 A L (C.map bv) := fun W A c h => Holds.own h
      clear hset hbK hscl hR hfin hRt hbdR hz hnl hsee2 hxs hbX hbZ hbV hV hX hZ hq hmore hKP hrow3 hh3 hC
      go_wp2_with (first
        | (at_builtin; refine wpList_copyB (by rfl) _ (by rfl) w3.heap.size A2 L c2 (packs bs) Hh3.out HL.out.symm (by rfl) hnil3 hLm ?_; clear Hh3; intro A4 c4 w4 ho4 _ hb4; have ho4' : w4.ownsRow w3.heap.size 5 1 (.slice A4 L c4) L ((packs bs).map bv) := (by unfold Own at ho4; rwa [HL.out] at ho4); obtain ⟨g4, c4', hv4, hg4, hcc4, hf4, hcell4⟩ := own_place ho4' hL0'; injection hv4 with hv41 _ hv43; subst hv41 hv43; have cx := hcell4 K _ HbK.out; have fx := hf4 K; have hrow5 := own_set1 (i := K) ho4' (.int .u8 ((X ^^^ Z : Nat) : Int)); rw [Hset.out] at hrow5; have Hrow5 := Lib.hid hrow5; have hb5 := hb4.setCell (p := ⟨g4, K, none⟩) hg4 (.int .u8 ((X ^^^ Z : Nat) : Int)); have Hb5 := Lib.hid hb5; have Hh5 := Lib.hid (hhC _ _ _ hrow5); clear ho4 ho4' hb4 hf4 hcell4 hrow5 hb5)
        | (at_builtin; refine wpList_copyB (by rfl) _ (by rfl) _ _ L _ C Hh5.out Hcl.out.symm (by rfl) (fun h => by cases h) hLm ?_; clear Hh5; intro A6 c6 w6 ho6 hc6 hb6; have Ho6 := Lib.hid ho6; have Hc6 := Lib.hid hc6; have Hb6 := Lib.hid (Hb5.out.trans (hb6.mono Hb5.out.size)); clear ho6 hc6 hb6))
      have H5 := scanS_any A6 c6 C w6 (Holds.own Ho6.out) Hc6.out (by rw [Hcl.out]; omega)
      rw [Hcl.out, HR.out] at H5
      have H5' := Lib.hid H5
      have hs6 := Hb6.out.size
      have Hin6 := Lib.hid ((Hin3.out.wideL hs23).farL Hb6.out)
      have Hbw6 := Lib.hid (Hb3.out.trans (Hb6.out.mono hs3))
      have hsw6 := Hbw6.out.size
      clear H5 Hin3
      refine H5'.out.mono ?_
      rintro e w7 ⟨v7, rfl, hi7, hb7⟩
      have hi7' := hi7.low
      obtain ⟨A7, c7, rfl, hc7⟩ := hi7'.formA
      obtain ⟨r, hr⟩ : ∃ r, R.length = r := ⟨_, rfl⟩
      rw [hr] at hc7 hRn hi7' ⊢
      have hs67 := hb7.size
      have hin7 := (Hin6.out.farL (hb7.mono hs6)).wideL (show w3.heap.size ≤ w7.heap.size by omega)
      have h1 := (hi7'.first hRn).1
      rw [HRt.out] at h1
      have h2 := (hin7.first hn).1
      have H7 := Lib.hid (fun q => sbK_any (bs.take n) (bs.take n) _ _ (w7.drewN q) w7.heap.size w7.heap.size
        (stays3.1 w7 (w7.drewN q) _ _ _ h1 fun p hp => rfl) (stays3.1 w7 (w7.drewN q) _ _ _ h2 fun p hp => rfl) (Nat.le_refl _) (Nat.le_refl _) (Hbd.out.take n) (Hbd.out.take n))
      have hbeq : ((bs.take n) == (bs.take n)) = true := by simp
      rw [hbeq] at H7
      have H8 := Lib.hid (fun q => sbK_any R bs _ _ (w7.drewN q) w7.heap.size w7.heap.size
        (stays3.1 w7 (w7.drewN q) _ _ _ hi7' fun p hp => rfl) (stays3.1 w7 (w7.drewN q) _ _ _ hin7 fun p hp => rfl) (Nat.le_refl _) (Nat.le_refl _) HbdR.out Hbd.out)
      rw [Hfin.out] at H8
      have Hb7 := Lib.hid (Hbw6.out.trans (hb7.mono hsw6))
      have hcut1 := fun W => run_cut_h (P := Try.prog) W 29 22 i1 Try.underlying29 hi1 A7 r c7 .i64 (n : Int) n rfl (by omega)
      have hcut2 := fun W => run_cut_h (P := Try.prog) W 29 22 i1 Try.underlying29 hi1 A1 m c1 .i64 (n : Int) n rfl (by omega)
      have hrn : ¬ (r : Int) < (n : Int) := by omega
      obtain ⟨zb, hzb⟩ : ∃ zb, ((Z : Int) == 0) = zb := ⟨_, rfl⟩
      rw [hzb] at H8
      clear hi7 hi7' hb7 hin7 h1 h2 hr H5' Hin6 Hbw6 Hfin HRt Hrow5 Hb5 Hb6 Ho6 Hc6 Hcl cx fx
      go_wp2_with fail
      go_quiet ((go_at_call 19; exact Calls.quiet_of (H7.out _)))
      go_wp2_with fail
      refine (H8.out nq).mono ?_
      rintro e w8 ⟨rfl, q8, rfl⟩
      cases zb
      · go_wp2_with fail
        go_ret
        exact ⟨by first | rfl | simp | simp [hzb], below_drewN Hb7.out _⟩
      · go_wp2_with fail
        go_ret
        exact ⟨by first | rfl | simp | simp [hzb], below_drewN Hb7.out _⟩
namespace walSeen
open Go.ChangeShapes Go.WideShapes Go.ChangeAt Go.RowKit
theorem own : ownKnob Try.prog.godebug = none := by kernel_rfl
theorem laidOut : laidOutB Try.prog = true := by kernel_rfl
set_option linter.unusedVariables false
set_option maxRecDepth 100000 in
theorem lifted (os : Os) (started : os.Started) (H : Type) (enc : TypeId × Value → H) :
    ReturnsInHanded {} Try.checked os 7 .any (Rows.walSeenSpec.pre6 enc Try.prog Try.f7 Rows.walSeenRow.domain false) (Rows.walSeenSpec.post enc Try.prog Try.f7 false true false false) := by
  refine returnsInHanded_of_change (C := Try.checked) own started (by kernel_rfl) Try.func7
    (ChangeSpec.witness6 (enc := enc) (C := Try.checked) false ⟨#[], #[.slice none 0 0, .int .i64 0, .int .u8 0], []⟩ 8 (by kernel_rfl) (by kernel_rfl) (by kernel_rfl) (by kernel_rfl)) ?_
  intro W base args ds gs before hval0 hW hcnd _
  have hval : ∀ (j : Nat) t v, Try.f7.params[j]? = some t → args[j]? = some v → Value.okWide Try.prog W .any base t v := hval0
  have hW' := hW
  obtain ⟨p, q, hA0, hV, rfl, hfz, hnd⟩ := hW
  have hA : DataW.TrodAll enc Try.prog W 0 (fun _ => true) true Try.f7.params.toList args.toList ds p := hA0
  rw [Try.params7] at hA hval
  obtain ⟨v0, vs0, d0, ds0, p0, q0, hargs, rfl, rfl, h0, rr0⟩ := trodAll_cons hA
  obtain ⟨v1, vs1, d1, ds1, p1, q1, rfl, rfl, rfl, h1, rr1⟩ := trodAll_cons rr0
  obtain ⟨v2, vs2, d2, ds2, p2, q2, rfl, rfl, rfl, h2, rr2⟩ := trodAll_cons rr1
  obtain ⟨rfl, rfl, rfl⟩ := trodAll_nil rr2
  obtain rfl : args = #[v0, v1, v2] := by cases args; simp_all
  obtain ⟨rfl, rfl⟩ := trodVars_none hV
  have k0 := h0
  have lt0 : ∀ x ∈ p0, x.block < W.heap.size := by obtain ⟨m, hm⟩ := k0; exact DataW.trod_lt m _ _ _ hm
  obtain ⟨A0, n0, c0, rfl, hx0⟩ := open_intsl Try.underlying34 Try.underlying3 (by kernel_rfl) (hval 0 34 v0 rfl rfl) h0
  have k1 := h1
  have lt1 : ∀ x ∈ p1, x.block < W.heap.size := by obtain ⟨m, hm⟩ := k1; exact DataW.trod_lt m _ _ _ hm
  obtain ⟨x1, rfl, hx1⟩ := open_i64 Try.underlying3 (hval 1 3 v1 rfl rfl) h1
  have k2 := h2
  have lt2 : ∀ x ∈ p2, x.block < W.heap.size := by obtain ⟨m, hm⟩ := k2; exact DataW.trod_lt m _ _ _ hm
  obtain ⟨x2, rfl⟩ := open_u8 Try.underlying5 (hval 2 5 v2 rfl rfl) h2
  clear hA0 hval0
  refine (walkWalSeen A0 n0 c0 x1 x2 W hx0 hx1).mono fun e W' ⟨he, bel⟩ => ?_
  subst he
  exact ⟨_, rfl, _, _, _, [], _, [], hW', trodAll_mk1 (shut_bool Try.underlying4 _), (trodAll_cons_mk (Below.trod laidOut (by kernel_rfl) (of_decide_eq_true (by kernel_rfl)) k0 bel lt0) (trodAll_cons_mk (Below.trod laidOut (by kernel_rfl) (of_decide_eq_true (by kernel_rfl)) k1 bel lt1) (trodAll_cons_mk (Below.trod laidOut (by kernel_rfl) (of_decide_eq_true (by kernel_rfl)) k2 bel lt2) trodAll_mk0))), rfl, bel.frame _, fun h => by cases h⟩

theorem over : Rows.walSeenRow.holds Try.pinned (OpenSpec.ofChange Rows.walSeenSpec) :=
  OpenClaim.holds_of_wide 7 Try.f7 rfl rfl rfl rfl rfl rfl rfl ⟨rfl, rfl, rfl, rfl, rfl⟩ rfl rfl rfl rfl rfl (by kernel_rfl) Try.func7 (by kernel_rfl)
    (of_decide_eq_true (by kernel_rfl)) (by unfold Func.isWrapper; first | (rw [if_pos (by decide +kernel)]; kernel_rfl) | (rw [if_neg (by decide +kernel)]; exact ⟨rfl, rfl⟩))
    (fun os started H enc _ => lifted os started H enc)

theorem proved : Rows.WalSeenSaid := over
#print axioms proved
end walSeen
end Go.Proofs.Ytbdbcffnjibjoaa
