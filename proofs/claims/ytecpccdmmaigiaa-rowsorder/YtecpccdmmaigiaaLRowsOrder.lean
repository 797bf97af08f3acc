/- Proved here: changes of different keys commute (statement RowsOrder). No condition. -/
import Derived.Test.YtecpccdmmaigiaaRwOf
import Derived.Test.YtecpccdmmaigiaaRwOrd
import Derived.Test.YtecpccdmmaigiaaRwSameK
import Derived.Test.YtecpccdmmaigiaaOpenI
namespace Go.Proofs.Ytecpccdmmaigiaa
set_option linter.unusedVariables false
set_option linter.unusedSimpArgs false
open Go.RowKit
def OrL1 (w1 : World) (n1 : Nat) (gk : Nat) (s6 s7 : Value) (wr : World) : Prop :=
  ∃ (i : Nat) (o : List Rw), s7 = .int .i64 (i : Int) ∧ i ≤ n1 ∧ gk = n1 - i ∧ Drawn o ∧ OneK o ∧ o.length ≤ i ∧ wr.ownsRow w1.heap.size 40 2 s6 o.length (pcR o) ∧ Below w1.heap.size w1 wr
def OrL2 (wa : World) (o : List Rw) (key : List UInt8) (N : Nat) (gk : Nat) (s8 s9 : Value) (wr : World) : Prop :=
  ∃ k q : Nat, s9 = .int .i64 (k : Int) ∧ k ≤ N ∧ gk = N - k ∧ s8 = .bool ((o.take k).all (fun r => !(r.key == key))) ∧ wr = wa.drewN q
def OrL3 (w2 : World) (cs : List Rw) (T N : Nat) (gk : Nat) (s10 s11 : Value) (wr : World) : Prop :=
  ∃ i : Nat, s11 = .int .i64 (i : Int) ∧ i ≤ N ∧ gk = N - i ∧ wr.ownsRow w2.heap.size 40 2 s10 i (pcR (oth cs T i)) ∧ Below w2.heap.size w2 wr
theorem ord_same {cs ds : List Rw} {T : Nat} (h1 : Drawn cs) (hd : Drawn ds) (hk : OneK cs) (hT : 0 < cs.length → T < cs.length) : sets (sets [] ds) cs = sets (sets [] ds) (oth cs T cs.length) := by
  have tb := Tbl.nil.setsT hd
  have hm : ∀ r, r ∈ cs ↔ r ∈ oth cs T cs.length := by
    rcases Nat.eq_zero_or_pos cs.length with h0 | h0
    · intro r; rw [h0, List.eq_nil_of_length_eq_zero h0]; simp [oth]
    · exact oth_mem (hT h0)
  have ho : Drawn (oth cs T cs.length) := fun r hr => h1 r ((hm r).2 hr)
  have t1 := tb.setsT h1
  have t2 := tb.setsT ho
  refine look_ext t1.srt t2.srt (fun r hr => (t1.good r hr).2) (fun r hr => (t2.good r hr).2) fun k => ?_
  rw [look_sets tb.srt, look_sets tb.srt, lastOf_same hk hm]
theorem own_one {W : World} {base g : Nat} {x y : Value} (hB : Blk W g 40 #[x, y]) (hb : base ≤ g) : W.ownsRow base 40 2 (.slice (some ⟨g, 0, none⟩) 1 1) 1 [x, y] :=
  ⟨rfl, .inr ⟨g, 1, #[x, y], rfl, hb, hB, Nat.le_refl _, by decide, rfl, rfl⟩⟩
set_option maxHeartbeats 4000000 in
set_option maxRecDepth 100000 in
theorem walkRowsOrder (A0 : Option Addr) (n0 c0 : Nat) (x1 : Int) (w : World) (hx0 : IntsAt w w.heap.size A0 n0 c0) (hx1 : -9223372036854775808 ≤ x1 ∧ x1 ≤ 9223372036854775807) :
    Calls Try.prog 12 #[.slice A0 n0 c0, .int .i64 x1] w fun e w' => e = .returned (.bool true) ∧ Below w.heap.size w w' := by
  have H1 := Lib.hid (changes_any A0 n0 c0 w.heap.size 40 w hx0 (Nat.le_refl _) (by decide))
  clear hx0
  go_enter Try.func12, Try.ntmps12
  go_wp2_with fail
  refine H1.out.mono ?_
  rintro e w1 ⟨v1, l, rfl, ho1, hlen, hdr, b1⟩
  obtain ⟨A1, c1, rfl, hin1⟩ := RIn.own ho1
  have Hdr := Lib.hid hdr
  have B1 := Lib.hid b1
  have Hin1 := Lib.hid hin1
  obtain ⟨n1, hn1⟩ : ∃ n1, l.length = n1 := ⟨_, rfl⟩
  have Hn1 := Lib.hid hn1
  rw [hn1] at Hin1 hlen ⊢
  have hn40 : n1 ≤ 40 := by omega
  clear ho1 hin1 b1 hdr H1 hn1 hlen
  go_wp2_with fail
  go_loopg [6, 7] n1 (OrL1 w1 n1)
  case atStart => exact ⟨0, [], rfl, Nat.zero_le _, by omega, by simp [Drawn], by simp [OneK], Nat.le_refl _, World.ownsRow_nil _ _ _ _, Below.refl _ _⟩
  case round =>
    obtain ⟨i, o, rfl, hi, hgk, hod, hok, hol, ho, hbe⟩ := hrel
    have Hgk := Lib.hid hgk
    have Hod := Lib.hid hod
    have Hok := Lib.hid hok
    have Hbe := Lib.hid hbe
    have Ho := Lib.hid ho
    have hszw := hbe.size
    obtain ⟨A6, c6, rfl, hin6⟩ := RIn.own ho
    have Hin6 := Lib.hid hin6
    obtain ⟨N, hN⟩ : ∃ N, o.length = N := ⟨_, rfl⟩
    have HN := Lib.hid hN
    rw [hN] at Hin6 Ho hol ⊢
    clear hgk hod hok hbe ho hin6 hN
    obtain ⟨wa, rfl⟩ : ∃ wa, wa = wr := ⟨_, rfl⟩
    by_cases hin : i < n1
    · have hil : i < l.length := by rw [Hn1.out]; exact hin
      obtain ⟨b, off, hA, hbB, d0, d1⟩ := (Hin1.out.below Hbe.out).at_ hil
      subst hA
      have hbw : b < wa.heap.size := by omega
      have Hrd := Lib.hid (Hdr.out l[i] (List.getElem_mem hil))
      generalize l[i] = r at *
      obtain ⟨rk, rv⟩ := r
      simp only at d0 d1
      have hi1 : (i : Int) < (n1 : Int) := by omega
      have D := Lib.hid (show ∀ q, (wa.drewN q).cell? ⟨b, off + i * 2, none⟩ = some (str rk) ∧ (wa.drewN q).cell? ⟨b, off + i * 2 + 1, none⟩ = some (str rv) from fun q => ⟨d0, d1⟩)
      clear d0 d1
      go_wp2_with fail
      go_loopg [8, 9] N (OrL2 wa o rk N)
      case atStart => exact ⟨0, 0, rfl, Nat.zero_le _, by omega, rfl, rfl⟩
      case round =>
        obtain ⟨k, q, rfl, hk, hgk, rfl, rfl⟩ := hrel
        have Hgk2 := Lib.hid hgk
        clear hgk
        obtain ⟨e0, e1⟩ := D.out q
        obtain ⟨e2, e3⟩ : wa.cell? ⟨b, off + i * 2, none⟩ = some (str rk) ∧ wa.cell? ⟨b, off + i * 2 + 1, none⟩ = some (str rv) := D.out 0
        by_cases hkn : k < N
        · have hkl : k < o.length := by rw [HN.out]; exact hkn
          obtain ⟨b', off', hA', hbB', f0, _⟩ := Hin6.out.at_ hkl
          subst hA'
          have HT := Lib.hid (show (o.take (k + 1)).all (fun r => !(r.key == rk)) = ((o.take k).all (fun r => !(r.key == rk)) && !(o[k].key == rk)) by
            rw [List.take_succ_eq_append_getElem hkl, List.all_append]; simp)
          have f1 : (wa.drewN q).cell? ⟨b', off' + k * 2, none⟩ = some (str o[k].key) := f0
          generalize o[k].key = ok at *
          have hk1 : (k : Int) < (N : Int) := by omega
          generalize (o.take k).all (fun r => !(r.key == rk)) = fr at *
          cases fr
          · go_wp2_with fail
            go_quiet (fail)
            go_wp2
            go_roundg (N - (k + 1))
            case measure => have := Hgk2.out; omega
            case rel => exact ⟨k + 1, _, by go_num, by omega, rfl, by rw [HT.out] <;> rfl, rfl⟩
          · cases hcmp : (ok == rk)
            · rw [hcmp] at HT
              go_wp2_with fail
              go_quiet (fail)
              go_wp2
              go_roundg (N - (k + 1))
              case measure => have := Hgk2.out; omega
              case rel => exact ⟨k + 1, _, by go_num, by omega, rfl, by rw [HT.out] <;> rfl, rfl⟩
            · rw [hcmp] at HT
              go_wp2_with fail
              go_quiet (fail)
              go_wp2
              go_roundg (N - (k + 1))
              case measure => have := Hgk2.out; omega
              case rel => exact ⟨k + 1, _, by go_num, by omega, rfl, by rw [HT.out] <;> rfl, rfl⟩
        · have hko : o.take k = o := List.take_of_length_le (by rw [HN.out]; omega)
          rw [hko]
          have Hbq := Lib.hid (below_drewN Hbe.out q)
          have hszq : w1.heap.size ≤ (wa.drewN q).heap.size := hszw
          have Hoq := Lib.hid (rowR_below Ho.out (below_drewN (Below.refl _ _) q))
          clear hko
          cases hfr : o.all (fun r => !(r.key == rk))
          · clear hfr
            go_wp2_with fail
            go_roundg (n1 - (i + 1))
            case measure => have := Hgk.out; omega
            case rel => exact ⟨i + 1, o, by go_num, by omega, rfl, Hod.out, Hok.out, by rw [HN.out]; omega, by rw [HN.out]; exact Hoq.out, Hbq.out⟩
          · obtain ⟨v', wf, hrun, ho', hg'⟩ := run_app_row (wa.drewN q) w1.heap.size N (.slice A6 N c6) o ⟨rk, rv⟩ Hoq.out (by omega) hszq
            have Hrun := Lib.hid hrun
            have Ho' := Lib.hid ho'
            have Hb' := Lib.hid (below_own (Hbq.out.alloc hszq _) hg' (Hoq.out.alloc _) (Nat.le_refl _) (by simp; omega))
            have Hod' := Lib.hid (show Drawn (o ++ [⟨rk, rv⟩]) from fun a ha => by
              rcases List.mem_append.1 ha with ha | ha
              · exact Hod.out a ha
              · rw [List.mem_singleton.1 ha]; exact Hrd.out)
            have Hok' := Lib.hid (Hok.out.snoc (r := ⟨rk, rv⟩) fun a ha => by
              have := List.all_eq_true.1 hfr a ha
              simpa using this)
            have Hol' := Lib.hid (show (o ++ [(⟨rk, rv⟩ : Rw)]).length = N + 1 by rw [List.length_append, HN.out]; rfl)
            clear hrun ho' hg' hfr
            go_wp2_with (first | (at_builtin; refine rw_app rfl _ _ _ rfl _ _ (by rfl) (by rfl) Hrun.out ?_; clear Hrun) | fail)
            go_roundg (n1 - (i + 1))
            case measure => have := Hgk.out; omega
            case rel => exact ⟨i + 1, o ++ [⟨rk, rv⟩], by go_num, by omega, rfl, Hod'.out, Hok'.out, by rw [Hol'.out]; omega, by rw [Hol'.out]; exact Ho'.out, Hb'.out⟩
    · obtain ⟨T, hT⟩ : ∃ T : Nat, 0 < N → x1 % (N : Int) = (T : Int) ∧ T < N := by
        refine ⟨(x1 % (N : Int)).toNat, fun h0 => ?_⟩
        have h1 := Int.emod_nonneg x1 (show (N : Int) ≠ 0 by omega)
        have h2 := Int.emod_lt_of_pos x1 (show (0 : Int) < (N : Int) by omega)
        exact ⟨by omega, by omega⟩
      have HTT := Lib.hid hT
      have Bwa := Lib.hid (B1.out.trans (Hbe.out.mono B1.out.size))
      have hN40 : N ≤ 40 := by omega
      clear hT Hgk
      go_wp2_with fail
      go_loopg [10, 11] N (OrL3 wa o T N)
      case atStart => exact ⟨0, rfl, Nat.zero_le _, by omega, World.ownsRow_nil _ _ _ _, Below.refl _ _⟩
      case round =>
        obtain ⟨j, rfl, hj, hgk, ho10, hb3⟩ := hrel
        have Hgk3 := Lib.hid hgk
        have Ho10 := Lib.hid ho10
        have Hb3 := Lib.hid hb3
        have hsz3 := hb3.size
        clear hgk ho10 hb3
        by_cases hjn : j < N
        · obtain ⟨hT1, hT2⟩ := HTT.out (by omega)
          have HP := Lib.hid (picked_any x1 (N : Int) wr (by omega) (by omega))
          rw [hT1] at HP
          have hml : (j + T) % N < N := Nat.mod_lt _ (by omega)
          have hmo : (j + T) % N < o.length := by rw [HN.out]; exact hml
          obtain ⟨b, off, hA, hbB, d0, d1⟩ := (Hin6.out.below Hb3.out).at_ hmo
          subst hA
          have hoth := Lib.hid (show oth o T (j + 1) = o[(j + T) % N] :: oth o T j by
            rw [oth, HN.out, rowAt_eq hmo])
          have hrem : Int.tmod ((j : Int) + (T : Int)) (N : Int) = (((j + T) % N : Nat) : Int) := by
            rw [Int.tmod_eq_emod_of_nonneg (by omega)]; simp
          have hnz : ((N : Int) == 0) = false := by rw [beq_eq_false_iff_ne]; omega
          have hw1 : IntKind.i64.wrap ((j : Int) + (T : Int)) = (j : Int) + (T : Int) := IntWalk.i64_in _ (by omega)
          have hj1 : (j : Int) < (N : Int) := by omega
          generalize o[(j + T) % N] = r at *
          obtain ⟨rk, rv⟩ := r
          simp only at d0 d1
          obtain ⟨m, hm⟩ : ∃ m, (j + T) % N = m := ⟨_, rfl⟩
          rw [hm] at hrem d0 d1 hml
          have hmi : (m : Int) < (N : Int) := by omega
          obtain ⟨i0, hi0, hz0, hzs, hzb⟩ := info_parts info_row
          obtain ⟨A10, c10, rfl, hin10⟩ := RIn.own Ho10.out
          have hBn := Blk.new wr 40 #[str rk, str rv]
          have hown1 := own_one (base := wa.heap.size) hBn hsz3
          obtain ⟨v', wf, hrun, ho', hg', _⟩ := run_app_all (P := Try.prog) (wr.alloc (.cells #[str rk, str rv] 40)) 22 22 wa.heap.size 40 i0 _ 2 32 Try.underlying22 hi0 hz0 hzs hzb rfl (by decide) (.slice (some ⟨wr.heap.size, 0, none⟩) 1 1) 1 [str rk, str rv] hown1 wr.heap.size A10 j c10 (pcR (oth o T j)) hin10.2.2.1 (hin10.2.2.2.alloc (Nat.le_refl _) _) (pcR_one _) (by omega) (by decide) (by simp; omega)
          have Hrun := Lib.hid hrun
          have Ho' := Lib.hid (show wf.ownsRow wa.heap.size 40 2 v' (j + 1) (pcR (oth o T (j + 1))) by
            rw [hoth.out, pcR_cons, Nat.add_comm]; exact ho')
          have Hb' := Lib.hid (below_own (Hb3.out.alloc hsz3 _) hg' hown1 (Nat.le_refl _) (by simp; omega))
          clear hrun ho' hg' hown1 hBn hin10 hoth hm hmo Ho10
          go_wp2_with fail
          refine HP.out.mono ?_
          rintro e wr' ⟨rfl, rfl⟩
          clear HP
          go_wp2_with (first | (at_builtin; refine rw_app rfl _ _ _ rfl _ _ (by rfl) (by rfl) Hrun.out ?_; clear Hrun) | fail)
          go_roundg (N - (j + 1))
          case measure => have := Hgk3.out; omega
          case rel => exact ⟨j + 1, by go_num, by omega, rfl, Ho'.out, Hb'.out⟩
        · obtain rfl : j = N := by omega
          have hj1 : ¬ (j : Int) < (j : Int) := by omega
          obtain ⟨A10, c10, rfl, hin10⟩ := RIn.own Ho10.out
          have Hin10 := Lib.hid hin10
          clear hin10 Ho10
          have hw3 := Blk.new wr 3 #[.int .i64 8, .int .i64 9, .int .i64 10, .int .i64 11, .int .i64 12]
          obtain ⟨w3, hw3e⟩ : ∃ w3, w3 = wr.alloc (.cells #[.int .i64 8, .int .i64 9, .int .i64 10, .int .i64 11, .int .i64 12] 3) := ⟨_, rfl⟩
          rw [← hw3e] at hw3
          have hb33 : Below wr.heap.size wr w3 := by rw [hw3e]; exact (Below.refl _ _).alloc (Nat.le_refl _) _
          have hints : IntsAt w3 w3.heap.size (some ⟨wr.heap.size, 0, none⟩) 5 5 := by
            refine ⟨[8, 9, 10, 11, 12], ⟨rfl, fun _ => ⟨wr.heap.size, 0, rfl, hw3.lt, fun j u hu => ?_⟩⟩, Nat.le_refl _, by omega, fun z hz => ?_⟩
            · rw [Nat.zero_add, hw3.cell j]; simpa using hu
            · simp at hz; omega
          have HK := Lib.hid hw3e
          have B33 := Lib.hid hb33
          have H4 := Lib.hid (changes_any (some ⟨wr.heap.size, 0, none⟩) 5 5 _ 5 w3 hints (Nat.le_refl _) (by decide))
          clear hw3 hw3e hb33 hints
          go_wp2_with fail
          rw [← HK.out]
          refine H4.out.mono ?_
          rintro e w4 ⟨v4, ds, rfl, ho4, hlen4, hdr4, b4⟩
          obtain ⟨A4, c4, rfl, hin4⟩ := RIn.own ho4
          have hl5 : ds.length ≤ 5 := by omega
          have H5 := Lib.hid (rowsOf_any A4 ds.length c4 _ ds w4 hin4 (Nat.le_refl _) (by omega) hdr4)
          have Hds := Lib.hid hdr4
          have L4r := Lib.hid (B33.out.trans (b4.mono B33.out.size))
          have L4 := Lib.hid (Hb3.out.trans ((B33.out.trans (b4.mono B33.out.size)).mono hsz3))
          clear ho4 hin4 b4 H4 hdr4 hlen4
          go_wp2_with fail
          refine H5.out.mono ?_
          rintro e w5 ⟨v5, rfl, ho5, b5⟩
          have TB := Lib.hid (Tbl.nil.setsT Hds.out)
          have hlb := TB.out.len
          obtain ⟨A5, c5, rfl, hin5⟩ := RIn.own ho5
          have Hin5 := Lib.hid hin5
          have Hsame := Lib.hid (ord_same (T := T) Hod.out Hds.out Hok.out (fun h => by rw [HN.out] at h ⊢; exact (HTT.out h).2))
          obtain ⟨nb, hnb⟩ : ∃ nb, (sets [] ds).length = nb := ⟨_, rfl⟩
          rw [hnb] at hlb Hin5 ⊢
          have L5 := Lib.hid (L4.out.trans (b5.mono L4.out.size))
          have L5r := Lib.hid (L4r.out.trans (b5.mono L4r.out.size))
          have H6 := Lib.hid (copR_any A5 nb c5 _ _ w5 Hin5.out (Nat.le_refl _) (by omega))
          clear ho5 hin5 b5 H5 hl5 hnb
          go_wp2_with fail
          refine H6.out.mono ?_
          rintro e w6 ⟨v6, rfl, ho6, b6⟩
          obtain ⟨A7, c7, rfl, hin7⟩ := RIn.own ho6
          have Hin7 := Lib.hid hin7
          have B56 := Lib.hid b6
          have L6 := Lib.hid (L5.out.trans (b6.mono L5.out.size))
          have H7 := Lib.hid (copR_any A6 j c6 _ _ w6 (Hin6.out.below L6.out) L6.out.size (by omega))
          clear ho6 hin7 b6 H6
          go_wp2_with fail
          refine H7.out.mono ?_
          rintro e w7 ⟨v7, rfl, ho7, b7⟩
          obtain ⟨A8, c8, rfl, hin8⟩ := RIn.own ho7
          have T8 := Lib.hid (TB.out.setNT Hod.out (by have := HN.out; omega))
          have H8 := Lib.hid (set_any A7 A8 nb c7 j c8 w6.heap.size w7.heap.size _ _ w7 (Hin7.out.below b7) b7.size TB.out.short (by omega) hin8 (Nat.le_refl _) (drawn_short Hod.out) (by omega))
          rw [T8.out] at H8
          have B57 := Lib.hid (B56.out.trans (b7.mono B56.out.size))
          clear ho7 hin8 b7 H7
          go_wp2_with fail
          refine H8.out.mono ?_
          rintro e w8 ⟨v8, rfl, ho8, b8⟩
          have T9 := Lib.hid (TB.out.setsT Hod.out)
          have hl9 := T9.out.len
          replace ho8 : w8.ownsRow w7.heap.size 40 2 v8 (sets (sets [] ds) o).length (pcR (sets (sets [] ds) o)) := ho8
          obtain ⟨A9, c9, rfl, hin9⟩ := RIn.own ho8
          have Hin9 := Lib.hid hin9
          have B58 := Lib.hid (B57.out.trans (b8.mono B57.out.size))
          have H9 := Lib.hid (copR_any A5 nb c5 _ _ w8 (Hin5.out.below B58.out) B58.out.size (by omega))
          clear ho8 hin9 b8 H8
          go_wp2_with fail
          refine H9.out.mono ?_
          rintro e w9 ⟨v9, rfl, ho9, b9⟩
          obtain ⟨A11, c11, rfl, hin11⟩ := RIn.own ho9
          have Hin11 := Lib.hid hin11
          have B89 := Lib.hid b9
          have B59 := Lib.hid (B58.out.trans (b9.mono B58.out.size))
          have L9r := Lib.hid (L5r.out.trans (B59.out.mono L5r.out.size))
          have H10 := Lib.hid (copR_any A10 j c10 _ _ w9 (Hin10.out.below L9r.out) L9r.out.size (by omega))
          clear ho9 hin11 b9 H9
          go_wp2_with fail
          refine H10.out.mono ?_
          rintro e w10 ⟨v10, rfl, ho10', b10⟩
          obtain ⟨A12, c12, rfl, hin12⟩ := RIn.own ho10'
          have hol : (oth o T j).length = j := oth_len o T j
          have hdo : Drawn (oth o T j) := fun a ha => by
            obtain ⟨m, hm, rfl⟩ := mem_oth.1 ha
            have hpos : 0 < o.length := by rw [HN.out]; omega
            have hml : (m + T) % o.length < o.length := Nat.mod_lt _ hpos
            rw [rowAt_eq hml]
            exact Hod.out _ (List.getElem_mem hml)
          have T11 := Lib.hid (TB.out.setNT hdo (by rw [hol]; omega))
          have H11 := Lib.hid (set_any A11 A12 nb c11 j c12 w9.heap.size w10.heap.size _ _ w10 (Hin11.out.below b10) b10.size TB.out.short (by omega) hin12 (Nat.le_refl _) (drawn_short hdo) (by omega))
          rw [T11.out, ← HN.out, ← Hsame.out, HN.out] at H11
          have B810 := Lib.hid (B89.out.trans (b10.mono B89.out.size))
          clear ho10' hin12 b10 H10 hdo hol
          go_wp2_with fail
          refine H11.out.mono ?_
          rintro e w11 ⟨v11, rfl, ho11, b11⟩
          replace ho11 : w11.ownsRow w10.heap.size 40 2 v11 (sets (sets [] ds) o).length (pcR (sets (sets [] ds) o)) := ho11
          obtain ⟨A13, c13, rfl, hin13⟩ := RIn.own ho11
          have B811 := Lib.hid (B810.out.trans (b11.mono B810.out.size))
          have HS := Lib.hid (sameRowsK_any A9 A13 _ c9 c13 _ _ _ w11 (Hin9.out.below B811.out) hin13 (by omega))
          have X11 := L5r.out.trans ((B58.out.trans (B811.out.mono B58.out.size)).mono L5r.out.size)
          have HX := Lib.hid (Bwa.out.trans ((Hb3.out.trans (X11.mono hsz3)).mono Bwa.out.size))
          clear ho11 hin13 b11 H11
          go_wp2_with fail
          refine HS.out.mono ?_
          rintro e w12 ⟨rfl, q, rfl⟩
          go_wp2_with fail
          go_ret
          exact ⟨rfl, below_drewN HX.out _⟩
namespace rowsOrder
open Go.ChangeShapes Go.WideShapes Go.ChangeAt Go.RowKit
theorem own : ownKnob Try.prog.godebug = none := by kernel_rfl
theorem laidOut : laidOutB Try.prog = true := by kernel_rfl
set_option linter.unusedVariables false
set_option maxRecDepth 100000 in
theorem lifted (os : Os) (started : os.Started) (H : Type) (enc : TypeId × Value → H) :
    ReturnsInHanded {} Try.checked os 12 .any (Rows.rowsOrderSpec.pre6 enc Try.prog Try.f12 Rows.rowsOrderRow.domain false) (Rows.rowsOrderSpec.post enc Try.prog Try.f12 false true false false) := by
  refine returnsInHanded_of_change (C := Try.checked) own started (by kernel_rfl) Try.func12
    (ChangeSpec.witness6 (enc := enc) (C := Try.checked) false ⟨#[], #[.slice none 0 0, .int .i64 0], []⟩ 8 (by kernel_rfl) (by kernel_rfl) (by kernel_rfl) (by kernel_rfl)) ?_
  intro W base args ds gs before hval0 hW hcnd _
  have hval : ∀ (j : Nat) t v, Try.f12.params[j]? = some t → args[j]? = some v → Value.okWide Try.prog W .any base t v := hval0
  have hW' := hW
  obtain ⟨p, q, hA0, hV, rfl, hfz, hnd⟩ := hW
  have hA : DataW.TrodAll enc Try.prog W 0 (fun _ => true) true Try.f12.params.toList args.toList ds p := hA0
  rw [Try.params12] at hA hval
  obtain ⟨v0, vs0, d0, ds0, p0, q0, hargs, rfl, rfl, h0, rr0⟩ := trodAll_cons hA
  obtain ⟨v1, vs1, d1, ds1, p1, q1, rfl, rfl, rfl, h1, rr1⟩ := trodAll_cons rr0
  obtain ⟨rfl, rfl, rfl⟩ := trodAll_nil rr1
  obtain rfl : args = #[v0, v1] := by cases args; simp_all
  obtain ⟨rfl, rfl⟩ := trodVars_none hV
  have k0 := h0
  have lt0 : ∀ x ∈ p0, x.block < W.heap.size := by obtain ⟨m, hm⟩ := k0; exact DataW.trod_lt m _ _ _ hm
  obtain ⟨A0, n0, c0, rfl, hx0⟩ := open_intsl Try.underlying35 Try.underlying3 (by kernel_rfl) (hval 0 35 v0 rfl rfl) h0
  have k1 := h1
  have lt1 : ∀ x ∈ p1, x.block < W.heap.size := by obtain ⟨m, hm⟩ := k1; exact DataW.trod_lt m _ _ _ hm
  obtain ⟨x1, rfl, hx1⟩ := open_i64 Try.underlying3 (hval 1 3 v1 rfl rfl) h1
  clear hA0 hval0
  refine (walkRowsOrder A0 n0 c0 x1 W hx0 hx1).mono fun e W' ⟨he, bel⟩ => ?_
  subst he
  exact ⟨_, rfl, _, _, _, [], _, [], hW', trodAll_mk1 (shut_bool Try.underlying4 _), (trodAll_cons_mk (Below.trod laidOut (by kernel_rfl) (of_decide_eq_true (by kernel_rfl)) k0 bel lt0) (trodAll_cons_mk (Below.trod laidOut (by kernel_rfl) (of_decide_eq_true (by kernel_rfl)) k1 bel lt1) trodAll_mk0)), rfl, bel.frame _, fun h => by cases h⟩

theorem over : Rows.rowsOrderRow.holds Try.pinned (OpenSpec.ofChange Rows.rowsOrderSpec) :=
  OpenClaim.holds_of_wide 12 Try.f12 rfl rfl rfl rfl rfl rfl rfl ⟨rfl, rfl, rfl, rfl, rfl⟩ rfl rfl rfl rfl rfl (by kernel_rfl) Try.func12 (by kernel_rfl)
    (of_decide_eq_true (by kernel_rfl)) (by unfold Func.isWrapper; first | (rw [if_pos (by decide +kernel)]; kernel_rfl) | (rw [if_neg (by decide +kernel)]; exact ⟨rfl, rfl⟩))
    (fun os started H enc _ => lifted os started H enc)

theorem proved : Rows.RowsOrderSaid := over
#print axioms proved
end rowsOrder
end Go.Proofs.Ytecpccdmmaigiaa
