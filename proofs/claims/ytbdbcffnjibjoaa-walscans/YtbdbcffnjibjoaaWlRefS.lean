/- Package wal: the reference's WalScan. -/
import Derived.Test.YtbdbcffnjibjoaaWlScan
import Derived.Test.YtbdbcffnjibjoaaWlRef
namespace Go.Proofs.Ytbdbcffnjibjoaa
set_option linter.unusedVariables false
set_option linter.unusedSimpArgs false
open Go.RowKit
theorem Holds.byteAt {w : World} {B n k b0 off : Nat} {l : List UInt8} {y : UInt8} (h : Holds w B 1 (some ⟨b0, off, none⟩) n (l.map bv)) (hy : l[k]? = some y) :
    w.cell? ⟨b0, off + k, none⟩ = some (.int .u8 (y.toNat : Int)) ∧ b0 < B := by
  have hk := (List.getElem?_eq_some_iff.1 hy).1
  have hl := h.len
  obtain ⟨_, _, e, hb, hc⟩ := h.2 (by omega)
  injection e with e
  injection e with e1 e2
  subst e1 e2
  exact ⟨hc k (bv y) (by rw [List.getElem?_map, hy]; rfl), hb⟩
theorem Holds.part {w : World} {B n b0 off : Nat} {l : List UInt8} (h : Holds w B 1 (some ⟨b0, off, none⟩) n (l.map bv)) (lo m : Nat) (hm : lo + m ≤ n) :
    Holds w B 1 (some ⟨b0, off + lo, none⟩) m (((l.drop lo).take m).map bv) := by
  have hl := h.len
  refine ⟨by simp; omega, fun h0 => ?_⟩
  obtain ⟨_, _, e, hb, hc⟩ := h.2 (by omega)
  injection e with e
  injection e with e1 e2
  subst e1 e2
  refine ⟨_, _, rfl, hb, fun j u hu => ?_⟩
  rw [Nat.add_assoc]
  refine hc (lo + j) u ?_
  rw [List.map_take, List.map_drop, List.getElem?_take] at hu
  split at hu
  · rwa [List.getElem?_drop] at hu
  · cases hu
def RfR (w : World) (l : List UInt8) (gk : Nat) (vB vC vU vR : Value) (wr : World) : Prop :=
  ∃ (read used : Nat) (cur : List (List UInt8)) (acc : List (List (List UInt8))),
    vU = .int .i64 used ∧ vR = .int .i64 read ∧ gk = l.length - read ∧ scn (l.drop read) read used cur acc = scan l ∧ read ≤ l.length ∧ used ≤ read ∧ cur.length ≤ read ∧ acc.length ≤ read ∧
    ScSt wr w.heap.size vB vC acc cur ∧ Below w.heap.size w wr
set_option maxRecDepth 100000 in
set_option maxHeartbeats 4000000 in
theorem refScan_any (A : Option Addr) (n c : Nat) (l : List UInt8) (w : World) (hh : Holds w w.heap.size 1 A n (l.map bv)) (hnc : n ≤ c) (hn : n ≤ 9223372036854775807) :
    Calls Try.prog 14 #[.slice A n c] w fun e w' => ∃ v, e = .returned (.tuple #[v, .int .i64 (scanR l).2.1, .int .i64 (scanR l).2.2]) ∧ In3 w' (newB w w') (scanR l).1 v ∧ Below w.heap.size w w' := by
  have hl := hh.len
  by_cases hbig : (1200 : Int) < n
  · have H := Lib.hid (show scanR l = ([], 0, 1) by unfold scanR; rw [if_pos (by omega)])
    clear hl
    go_enter Try.func14, Try.ntmps14
    go_wp2
    go_ret3
    refine ⟨_, by rw [H.out]; rfl, ?_, Below.refl _ _⟩
    rw [H.out]
    exact ⟨none, 0, [], rfl, by simp, fun _ => rfl, HoldsS.nil, Ats.nil⟩
  · have H := Lib.hid (show scanR l = ((scan l).1, (scan l).2, 0) by unfold scanR; rw [if_neg (by omega)])
    have Hl := Lib.hid hl
    have Hh := Lib.hid hh
    obtain ⟨i0, hi0, hz0, hz1, hz2⟩ := info_parts info_u8
    clear hl hh
    go_enter Try.func14, Try.ntmps14
    go_wp2
    go_loopg [5, 6, 7, 8] l.length (RfR w l)
    case atStart => exact ⟨0, 0, [], [], rfl, rfl, by omega, rfl, by omega, by omega, by simp, by simp, ScSt.empty _ _, Below.refl _ _⟩
    case round =>
      obtain ⟨p, used, cur, acc, rfl, rfl, hgk, hsc, hp, hur, hcr, har, hst, hbe⟩ := hrel
      have Hgk := Lib.hid hgk
      have Hst := Lib.hid hst
      have Hbe := Lib.hid hbe
      have hsz := hbe.size
      have hpn : p ≤ n := by have := Hl.out; omega
      have Hlen := Lib.hid (show ∀ q : Nat, (l.drop q).length = n - q from fun q => by rw [List.length_drop, Hl.out])
      clear hgk hst hbe
      have Hout := Lib.hid (show ff (l.drop p) = none → scan l = (acc, used) from fun h => by rw [← hsc, scn_none h])
      by_cases hlt : (p : Int) + 5 ≤ n
      · obtain ⟨x, f, rest, hb⟩ : ∃ x f rest, l.drop p = x :: f :: rest := by
          have := Hlen.out p
          match hd : l.drop p with
          | [] => rw [hd] at this; simp at this; omega
          | [_] => rw [hd] at this; simp at this; omega
          | x :: f :: rest => exact ⟨x, f, rest, rfl⟩
        have hrl : rest.length + 2 = n - p := by have := Hlen.out p; rw [hb] at this; simpa using this
        obtain ⟨b0, off, rfl, hb0, _⟩ := Hh.out.2 (by omega)
        have hhr : Holds wr w.heap.size 1 (some ⟨b0, off, none⟩) n (l.map bv) := Hh.out.below Hbe.out
        have hat : ∀ k : Nat, l[p + k]? = (x :: f :: rest)[k]? := fun k => by rw [← hb, List.getElem?_drop]
        have hc0 := (hhr.byteAt (k := p) (y := x) (by have := hat 0; simpa using this)).1
        have hc1 := (hhr.byteAt (k := p + 1) (y := f) (by have := hat 1; simpa using this)).1
        obtain ⟨X, hX⟩ : ∃ X, x.toNat = X := ⟨_, rfl⟩
        obtain ⟨F, hF⟩ : ∃ F, f.toNat = F := ⟨_, rfl⟩
        have hXl := x.toNat_lt
        have hFl := f.toNat_lt
        rw [hX] at hc0 hXl
        rw [hF] at hc1 hFl
        have HX := Lib.hid hX
        have HF := Lib.hid hF
        have Hb := Lib.hid hb
        have Hrl := Lib.hid hrl
        have Hhr := Lib.hid hhr
        have Hat := Lib.hid hat
        have Hsc := Lib.hid hsc
        clear hX hF hrl hhr hat hsc
        rw [Hb.out] at Hout
        have Hdone := Lib.hid (show ∀ (_ : ff (x :: f :: rest) = none), ∃ vv, vv = scanR l ∧ vv = (acc, used, 0) from fun h => ⟨_, rfl, by rw [H.out, Hout.out h]⟩)
        by_cases h1 : (X : Int) < 1
        · have Hd := Lib.hid (Hout.out (ff_no1 (by rw [HX.out]; omega)))
          clear Hdone Hout Hsc Hat
          go_wp2
          go_ret3
          refine ⟨_, by rw [H.out, Hd.out]; rfl, ?_, Hbe.out⟩
          rw [H.out, Hd.out]
          exact Hst.out.built
        · by_cases h2 : 60 < (X : Int)
          · have Hd := Lib.hid (Hout.out (ff_no1 (by rw [HX.out]; omega)))
            clear Hdone Hout Hsc Hat
            go_wp2
            go_ret3
            refine ⟨_, by rw [H.out, Hd.out]; rfl, ?_, Hbe.out⟩
            rw [H.out, Hd.out]
            exact Hst.out.built
          · by_cases h3 : 1 < (F : Int)
            · have Hd := Lib.hid (Hout.out (ff_no2 (by rw [HF.out]; omega)))
              clear Hdone Hout Hsc Hat
              go_wp2
              go_ret3
              refine ⟨_, by rw [H.out, Hd.out]; rfl, ?_, Hbe.out⟩
              rw [H.out, Hd.out]
              exact Hst.out.built
            · by_cases h4 : (n : Int) < p + X + 4
              · have Hd := Lib.hid (Hout.out (ff_no3 (by rw [HX.out]; have := Hrl.out; omega)))
                clear Hdone Hout Hsc Hat
                go_wp2
                go_ret3
                refine ⟨_, by rw [H.out, Hd.out]; rfl, ?_, Hbe.out⟩
                rw [H.out, Hd.out]
                exact Hst.out.built
              · have hX1 : 1 ≤ X := by omega
                have hrX : X + 2 ≤ rest.length := by have := Hrl.out; omega
                have hff := ff_sum (x := x) (f := f) (rest := rest) (by rw [HX.out]; omega) (by rw [HX.out]; omega) (by rw [HF.out]; omega) (by rw [HX.out]; omega)
                simp only [HX.out] at hff
                have hcE := (Hhr.out.byteAt (k := p + X + 2) (y := rest[X]'(by omega)) (by rw [Nat.add_assoc, Hat.out (X + 2)]; simp [List.getElem?_eq_getElem (show X < rest.length by omega)])).1
                have hcF := (Hhr.out.byteAt (k := p + X + 3) (y := rest[X + 1]'(by omega)) (by rw [Nat.add_assoc, Hat.out (X + 3)]; simp [List.getElem?_eq_getElem (show X + 1 < rest.length by omega)])).1
                have hYl := (rest[X]'(by omega)).toNat_lt
                have hZl := (rest[X + 1]'(by omega)).toNat_lt
                obtain ⟨Y, hY⟩ : ∃ Y, (rest[X]'(by omega)).toNat = Y := ⟨_, rfl⟩
                obtain ⟨Z, hZ⟩ : ∃ Z, (rest[X + 1]'(by omega)).toNat = Z := ⟨_, rfl⟩
                simp only [hY, hZ] at hff
                rw [hY] at hcE hYl
                rw [hZ] at hcF hZl
                have hhS : Holds wr wr.heap.size 1 (some ⟨b0, off + p, none⟩) (p + X + 2 - p) ((x :: f :: rest.take X).map bv) := by
                  rw [show p + X + 2 - p = X + 2 by omega]
                  have := (Hhr.out.part p (X + 2) (by omega)).wider hsz
                  rwa [Hb.out, show (x :: f :: rest).take (X + 2) = x :: f :: rest.take X from rfl] at this
                have hhD : Holds wr wr.heap.size 1 (some ⟨b0, off + (p + 2), none⟩) (p + 2 + X - (p + 2)) ((rest.take X).map bv) := by
                  rw [show p + 2 + X - (p + 2) = X by omega]
                  have := (Hhr.out.part (p + 2) X (by omega)).wider hsz
                  rwa [← List.drop_drop, Hb.out, show (x :: f :: rest).drop 2 = rest from rfl] at this
                have Hff := Lib.hid hff
                have HhS := Lib.hid hhS
                have HhD := Lib.hid hhD
                have hst := sums_lt (x :: f :: rest.take X)
                obtain ⟨s1, hs1⟩ : ∃ s1, (sums (x :: f :: rest.take X)).1 = s1 := ⟨_, rfl⟩
                obtain ⟨s2, hs2⟩ : ∃ s2, (sums (x :: f :: rest.take X)).2 = s2 := ⟨_, rfl⟩
                rw [hs1, hs2] at Hff hst
                have Hs1 := Lib.hid hs1
                have Hs2 := Lib.hid hs2
                obtain ⟨hst1, hst2⟩ := hst
                clear hff hhS hhD hs1 hs2 hY hZ
                have hnum : p + 2 + X - (p + 2) = X := by omega
                have HtX := Lib.hid (show (rest.take X).length = X by rw [List.length_take]; omega)
                have hlenX : p + 2 + X - (p + 2) ≤ 1048576 := by omega
                have hlen4 : cur.length + 1 ≤ 1048576 := by have := Hl.out; omega
                have hlen5 : acc.length + 1 ≤ 1048576 := by have := Hl.out; omega
                clear Hdone Hat hrX
                go_wp2_with fail
                refine (walSums_any _ _ _ (x :: f :: rest.take X) wr HhS.out (by omega)).mono ?_
                rintro e w1 ⟨rfl, rfl⟩
                rw [Hs1.out, Hs2.out]
                clear HhS
                by_cases hne1 : s1 = Y
                · by_cases hne2 : s2 = Z
                  · have hff2 := Hff.out
                    rw [if_pos ⟨hne1, hne2⟩] at hff2
                    clear Hff Hout
                    subst hne1 hne2
                    by_cases hlast : F = 1
                    · have hFb : ((F : Int) == 1) = true := by simp; omega
                      have Hnext := Lib.hid (show scn (l.drop (p + (X + 4))) (p + (X + 4)) (p + (X + 4)) [] (acc ++ [cur ++ [rest.take X]]) = scan l by
                        have h := Hsc.out
                        rw [Hb.out, scn_some hff2, HF.out, show (F == 1) = true by simp; omega, if_pos rfl, HtX.out] at h
                        rw [← List.drop_drop, Hb.out]
                        exact h)
                      clear hff2 Hsc
                      go_wp2_with (first
                        | (at_builtin; refine wpList_append_nil wr (by rfl) _ 23 (by rfl) 5 i0 _ 1 1 Try.underlying23 hi0 hz0 hz1 hz2 rfl (by decide) wr.heap.size _ _ _ _ HhD.out (by rfl) (fun h => by cases h) (bv_one _) hlenX (by decide) ?_; clear HhD; intro A3 c3 w3 ho3 _ _ hb3; rw [hnum] at ho3 ⊢; have ho3' : Own w3 wr.heap.size (.slice A3 X c3) (rest.take X) := (by unfold Own; rw [HtX.out]; exact ho3); have Hst3 := Lib.hid (Hst.out.below hb3); have Hin3 := Lib.hid (Hst3.out.in1 ho3' hsz); have Hb3 := Lib.hid (Hbe.out.trans (hb3.mono hsz)); have hs3 := Hb3.out.size; clear ho3 ho3' hb3)
                        | (at_builtin; refine wpList_scPush (by rfl) _ _ (by rfl) w.heap.size _ _ acc cur (by rfl) Hst3.out (rest.take X) _ Hin3.out (by rfl) hlen4 hs3 ?_; clear Hin3 Hst3; intro v4 w4 hst4 hb4 _; obtain ⟨A4, c4, hv4⟩ := hst4.formC; rw [List.length_append, List.length_singleton] at hv4; subst hv4; have Hst4 := Lib.hid hst4; have Hb4 := Lib.hid (Hb3.out.trans hb4); have hs4 := Hb4.out.size; have hc4 : w4.cell? ⟨b0, off + (p + 1), none⟩ = some (.int .u8 (F : Int)) := (by have h1 := (Hb4.out.cell (p := ⟨b0, off + (p + 1), none⟩) hb0); have h2 := (Hbe.out.cell (p := ⟨b0, off + (p + 1), none⟩) hb0); rw [h1, ← h2]; exact hc1); clear hst4 hb4)
                        | (at_builtin; refine wpList_scFlush (by rfl) _ _ (by rfl) w.heap.size _ _ acc (cur ++ [rest.take X]) (by rfl) Hst4.out (by rfl) hlen5 hs4 ?_; clear Hst4; intro v5 w5 hst5 hb5 _; have Hst5 := Lib.hid hst5; have Hb5 := Lib.hid (Hb4.out.trans hb5); clear hst5 hb5)
                        )
                      go_roundg (l.length - (p + (X + 4)))
                      case measure => have := Hgk.out; have := Hl.out; omega
                      case rel => exact ⟨p + (X + 4), p + (X + 4), [], acc ++ [cur ++ [rest.take X]], by go_num, by go_num, rfl, Hnext.out, by have := Hl.out; omega, by omega, by simp, by simp; omega, Hst5.out, Hb5.out⟩
                    · have hFb : ((F : Int) == 1) = false := by simp; omega
                      have Hnext := Lib.hid (show scn (l.drop (p + (X + 4))) (p + (X + 4)) used (cur ++ [rest.take X]) acc = scan l by
                        have h := Hsc.out
                        rw [Hb.out, scn_some hff2, HF.out, show (F == 1) = false by simp; omega, if_neg (by decide), HtX.out] at h
                        rw [← List.drop_drop, Hb.out]
                        exact h)
                      clear hff2 Hsc
                      go_wp2_with (first
                        | (at_builtin; refine wpList_append_nil wr (by rfl) _ 23 (by rfl) 5 i0 _ 1 1 Try.underlying23 hi0 hz0 hz1 hz2 rfl (by decide) wr.heap.size _ _ _ _ HhD.out (by rfl) (fun h => by cases h) (bv_one _) hlenX (by decide) ?_; clear HhD; intro A3 c3 w3 ho3 _ _ hb3; rw [hnum] at ho3 ⊢; have ho3' : Own w3 wr.heap.size (.slice A3 X c3) (rest.take X) := (by unfold Own; rw [HtX.out]; exact ho3); have Hst3 := Lib.hid (Hst.out.below hb3); have Hin3 := Lib.hid (Hst3.out.in1 ho3' hsz); have Hb3 := Lib.hid (Hbe.out.trans (hb3.mono hsz)); have hs3 := Hb3.out.size; clear ho3 ho3' hb3)
                        | (at_builtin; refine wpList_scPush (by rfl) _ _ (by rfl) w.heap.size _ _ acc cur (by rfl) Hst3.out (rest.take X) _ Hin3.out (by rfl) hlen4 hs3 ?_; clear Hin3 Hst3; intro v4 w4 hst4 hb4 _; obtain ⟨A4, c4, hv4⟩ := hst4.formC; rw [List.length_append, List.length_singleton] at hv4; subst hv4; have Hst4 := Lib.hid hst4; have Hb4 := Lib.hid (Hb3.out.trans hb4); have hs4 := Hb4.out.size; have hc4 : w4.cell? ⟨b0, off + (p + 1), none⟩ = some (.int .u8 (F : Int)) := (by have h1 := (Hb4.out.cell (p := ⟨b0, off + (p + 1), none⟩) hb0); have h2 := (Hbe.out.cell (p := ⟨b0, off + (p + 1), none⟩) hb0); rw [h1, ← h2]; exact hc1); clear hst4 hb4)
                        )
                      go_roundg (l.length - (p + (X + 4)))
                      case measure => have := Hgk.out; have := Hl.out; omega
                      case rel => exact ⟨p + (X + 4), used, cur ++ [rest.take X], acc, by go_num, by go_num, rfl, Hnext.out, by have := Hl.out; omega, by omega, by simp; omega, by omega, Hst4.out, Hb4.out⟩
                  · subst hne1
                    have hb2 : ((s2 : Int) != (Z : Int)) = true := by rw [bne_iff_ne]; omega
                    have hff2 := Hff.out
                    rw [if_neg (fun h => hne2 h.2)] at hff2
                    have Hd := Lib.hid (Hout.out hff2)
                    clear Hff hne2 Hout hff2 Hsc
                    go_wp2
                    go_ret3
                    refine ⟨_, by rw [H.out, Hd.out]; rfl, ?_, Hbe.out⟩
                    rw [H.out, Hd.out]
                    exact Hst.out.built
                · have hb1 : ((s1 : Int) != (Y : Int)) = true := by rw [bne_iff_ne]; omega
                  have hff2 := Hff.out
                  rw [if_neg (fun h => hne1 h.1)] at hff2
                  have Hd := Lib.hid (Hout.out hff2)
                  clear Hff hne1 Hout hff2 Hsc
                  go_wp2
                  go_ret3
                  refine ⟨_, by rw [H.out, Hd.out]; rfl, ?_, Hbe.out⟩
                  rw [H.out, Hd.out]
                  exact Hst.out.built
      · have hdone := Hout.out (ff_no0 (by rw [Hlen.out]; omega))
        have Hd := Lib.hid hdone
        clear hsc hdone
        go_wp2
        go_ret3
        refine ⟨_, by rw [H.out, Hd.out]; rfl, ?_, Hbe.out⟩
        rw [H.out, Hd.out]
        exact Hst.out.built
end Go.Proofs.Ytbdbcffnjibjoaa
