/- Proved here: who reads changes nothing, and what is got by its key is what stands among all (statement StoreReads). No condition. -/
import Derived.Test.YtploicbiapjfdaaBunSF
import Derived.Test.YtploicbiapjfdaaRwSameK
import Derived.Test.YtploicbiapjfdaaSameKeep
import Derived.ChangeSame
namespace Go.Proofs.Ytploicbiapjfdaa
set_option linter.unusedVariables false
set_option linter.unusedSimpArgs false
open Go.RowKit
def wrt (a : Ac) : Bool := decide (a.kind ≠ 2 ∧ a.kind ≠ 3)
theorem reads_state : ∀ (l : List Ac) (s : List Rw × List UInt8), (actsR s (l.filter wrt)).2 = (actsR s l).2
  | [], _ => rfl
  | a :: l, s => by
    by_cases h : wrt a = true
    · rw [List.filter_cons_of_pos h]
      exact reads_state l _
    · rw [List.filter_cons_of_neg h]
      have h2 : (actR s a).2 = s := by
        unfold wrt at h
        by_cases h2 : a.kind = 2
        · rw [act_get h2]
        · have h3 : a.kind = 3 := by simp at h; exact h h2
          rw [act_range h3]
      show _ = (actsR (actR s a).2 l).2
      rw [h2]
      exact reads_state l s
theorem look_first {k : List UInt8} : ∀ {l : List Rw} {i : Nat} (hi : i < l.length), (∀ (j : Nat) (hj : j < l.length), j < i → l[j].key ≠ k) → l[i].key = k → look l k = l[i].val
  | r :: l, 0, _, _, h => by
    unfold look
    rw [if_pos (by simpa using h)]; rfl
  | r :: l, i + 1, hi, hn, h => by
    have h0 : r.key ≠ k := hn 0 (by simp) (by omega)
    unfold look
    rw [if_neg h0]
    have := look_first (l := l) (i := i) (by simpa using hi) (fun j hj hji => by have := hn (j + 1) (by simpa using hj) (by omega); simpa using this) (by simpa using h)
    simpa using this
theorem look_no {k : List UInt8} {l : List Rw} (h : ∀ (j : Nat) (hj : j < l.length), l[j].key ≠ k) : look l k = [] := by
  cases h0 : look l k with
  | nil => rfl
  | cons x r =>
    obtain ⟨q, hq, hk, _⟩ := look_mem (k := k) (l := l) (by rw [h0]; simp)
    obtain ⟨j, hj, e⟩ := List.getElem_of_mem hq
    exact absurd (by rw [e]; exact hk) (h j hj)
def RdR (w1 : World) (acs : List Ac) (l : Nat) (gk : Nat) (s6 s7 : Value) (wr : World) : Prop :=
  ∃ i : Nat, s7 = .int .i64 (i : Int) ∧ i ≤ l ∧ gk = l - i ∧ AsS wr w1.heap.size (fun b => b < w1.heap.size) s6 ((acs.take i).filter wrt) ∧ Below w1.heap.size w1 wr
def NoR (T : List Rw) (key : List UInt8) (w0 : World) (t : Nat) (gk : Nat) (s21 : Value) (wr : World) : Prop :=
  ∃ i : Nat, s21 = .int .i64 (i : Int) ∧ i ≤ t ∧ gk = t - i ∧ (∀ (j : Nat) (hj : j < T.length), j < i → T[j].key ≠ key) ∧ wr = w0
set_option maxHeartbeats 4000000 in
set_option maxRecDepth 100000 in
theorem walkStoreReads (A0 : Option Addr) (n0 c0 : Nat) (x1 : Int) (w : World) (hx0 : WsIn w w.heap.size A0 n0) (hx1 : -9223372036854775808 ≤ x1 ∧ x1 ≤ 9223372036854775807) :
    Calls Try.prog 9 #[.slice A0 n0 c0, .int .i64 x1] w fun e w' => e = .returned (.bool true) ∧ Below w.heap.size w w' := by
  have Hx1 := Lib.hid hx1
  have H1 := Lib.hid (acts_any A0 n0 c0 40 w hx0 (by decide))
  clear hx0
  go_enter Try.func9, Try.ntmps9
  go_wp2_with fail
  refine H1.out.mono ?_
  rintro e w1 ⟨v1, acs, rfl, hl1, -, has1, hb1⟩
  obtain ⟨B1, d1, rfl, hin1⟩ := has1.form
  obtain ⟨l, hn1⟩ : ∃ l, acs.length = l := ⟨_, rfl⟩
  have hl40 : l ≤ 40 := by omega
  rw [hn1] at hin1 ⊢
  have HinA := Lib.hid hin1
  have Hl := Lib.hid hn1
  have HB0 := Lib.hid hb1
  clear H1 hl1 has1 hb1 hin1 hn1
  go_wp2_with fail
  go_loopg [6, 7] l (RdR w1 acs l)
  case atStart => exact ⟨0, rfl, Nat.zero_le _, by omega, AsS.nil _ _ _, Below.refl _ _⟩
  case round =>
    obtain ⟨i, rfl, hi, hgk, has, hbe⟩ := hrel
    obtain ⟨A6, c6, rfl, hin6⟩ := has.form
    obtain ⟨k, hk⟩ : ∃ k, ((acs.take i).filter wrt).length = k := ⟨_, rfl⟩
    rw [hk] at has hin6 ⊢
    have Hgk := Lib.hid hgk
    have Hk := Lib.hid hk
    have hkl : k ≤ 40 := by
      have h1 := List.length_filter_le wrt (acs.take i)
      rw [hk, List.length_take] at h1
      omega
    have Has := Lib.hid has
    have Hbe := Lib.hid hbe
    have Hin6 := Lib.hid hin6
    clear hgk hk has hbe hin6
    by_cases hlt : i < l
    · have hia : i < acs.length := by have := Hl.out; omega
      have hlti : (i : Int) < (l : Int) := by omega
      have HT : Hid (acs.take (i + 1) = acs.take i ++ [acs[i]]) := Lib.hid (List.take_succ_eq_append_getElem hia)
      obtain ⟨b, off, Ar, cr, hA, hbB, hain, d0, d1', d2, d3⟩ := (HinA.out.below Hbe.out).at_ hia
      subst hA
      generalize acs[i] = a at *
      obtain ⟨kd, rs, ky, m⟩ := a
      simp only at d0 d1' d2 d3 hain
      have hbwr : b < wr.heap.size := by have := Hbe.out.size; omega
      by_cases h2 : kd = 2
      · subst h2
        have Hst : Hid ((acs.take (i + 1)).filter wrt = (acs.take i).filter wrt) := Lib.hid (by rw [HT.out, List.filter_append]; simp [wrt])
        clear hain
        go_wp2_with fail
        go_roundg (l - (i + 1))
        case measure => have := Hgk.out; omega
        case rel => exact ⟨i + 1, by go_num, by omega, rfl, by rw [Hst.out]; exact Has.out, Hbe.out⟩
      · by_cases h3 : kd = 3
        · subst h3
          have Hst : Hid ((acs.take (i + 1)).filter wrt = (acs.take i).filter wrt) := Lib.hid (by rw [HT.out, List.filter_append]; simp [wrt])
          clear hain
          go_wp2_with fail
          go_roundg (l - (i + 1))
          case measure => have := Hgk.out; omega
          case rel => exact ⟨i + 1, by go_num, by omega, rfl, by rw [Hst.out]; exact Has.out, Hbe.out⟩
        · have Hst : Hid ((acs.take (i + 1)).filter wrt = (acs.take i).filter wrt ++ [⟨kd, rs, ky, m⟩]) := Lib.hid (by rw [HT.out, List.filter_append]; simp [wrt, h2, h3])
          have q2 : (kd != 2) = true := by simpa using h2
          have q3 : (kd != 3) = true := by simpa using h3
          have hS : ∀ b, b < w1.heap.size → some b ≠ (Value.slice A6 k c6).ownBlock := fun b hb e => by obtain ⟨pc, ho, _⟩ := Has.out; have := (ho.lt b e.symm).1; omega
          obtain ⟨v7, w7, hrun7, has7, hb7, _, _⟩ := acts_put Has.out hS ⟨kd, rs, ky, m⟩ _ hain #[.int .i64 kd, .slice Ar rs.length cr, str ky, .int .i64 m] rfl (by rw [Hk.out]; omega) Hbe.out.size
          have Hrun7 := Lib.hid hrun7
          have Has7 := Lib.hid has7
          have Hb7 := Lib.hid (hb7 _ _ Hbe.out (Nat.le_refl _) Hbe.out.size)
          clear hain hS hrun7 has7 hb7
          go_wp2_with (first | (at_builtin; refine rw_app rfl _ _ _ rfl _ _ (by rfl) (by rfl) Hrun7.out ?_; clear Hrun7) | fail)
          go_roundg (l - (i + 1))
          case measure => have := Hgk.out; omega
          case rel => exact ⟨i + 1, by go_num, by omega, rfl, by rw [Hst.out]; exact Has7.out, Hb7.out⟩
    · have hil : ¬ (i : Int) < (l : Int) := by omega
      have hall : acs.take i = acs := List.take_of_length_le (by have := Hl.out; omega)
      rw [hall] at Hin6 Hk
      have hstf : (actsR st0 (acs.filter wrt)).2.2 = (actsR st0 acs).2.2 := by rw [reads_state]
      have HS1 := Lib.hid (stored_any B1 l d1 w1.heap.size acs wr (HinA.out.below Hbe.out) Hbe.out.size (by omega))
      have HS2 := Lib.hid (show ∀ W, Below wr.heap.size wr W → _ from fun W hb => stored_any A6 k c6 wr.heap.size _ W (Hin6.out.below hb) hb.size (by omega))
      have HinW := Lib.hid ((HinA.out.below Hbe.out).wider Hbe.out.size)
      have hle := fil_len acs
      unfold filOfA at hle
      unfold StdPost at HS1 HS2
      simp only [Hl.out] at HS1
      simp only [Hk.out, hstf] at HS2
      generalize hF : (actsR st0 acs).2.2 = F at *
      have HB0 := Lib.hid (HB0.out.trans (Hbe.out.mono HB0.out.size))
      clear hF hstf hall Hin6 Has
      have htl := (tab_fit acs).len
      have hft := tab_fit acs
      have Hlook : Hid (∀ k, look (tabOf acs) k = [] → getN (tabOf acs) k = (8, [])) := Lib.hid fun k h => by unfold getN; rw [if_pos h]
      have Hlook2 : Hid (∀ k v, v ≠ [] → look (tabOf acs) k = v → getN (tabOf acs) k = (0, [⟨k, v⟩])) := Lib.hid fun k v h1 h2 => by unfold getN; rw [h2, if_neg h1]
      have HsnR : Hid (∀ k, (actsR st0 (acs ++ [⟨2, [], k, 0⟩])).1 = (actsR st0 acs).1 ++ [getN (tabOf acs) k]) := Lib.hid fun k => by rw [actsR_snoc, act_get rfl]; rfl
      have Htl : Hid ((actsR st0 acs).1.length = l) := Lib.hid (by rw [actsR_len, Hl.out])
      have HAR := Lib.hid (show ∀ W, Below wr.heap.size wr W → _ from fun W hb => allRows_any B1 l d1 wr.heap.size acs W (HinW.out.below hb) hb.size (by omega))
      generalize tabOf acs = T at *
      go_wp2_with fail
      refine HS1.out.mono ?_
      rintro e Xa ⟨Aqa, cqa, Afa, cfa, rfl, -, hfa, hst⟩
      have HBw := Lib.hid hst
      have Hfa := Lib.hid hfa
      clear hfa hst HS1
      go_wp2_with fail
      refine (HS2.out _ HBw.out).mono ?_
      rintro e Xb ⟨Aqb, cqb, Afb, cfb, rfl, -, hfb, hst⟩
      have HBw := Lib.hid (HBw.out.trans (hst.mono HBw.out.size))
      have Hfa := Lib.hid (Hfa.out.below hst)
      have Hfb := Lib.hid hfb
      clear hfb hst HS2
      go_wp2_with fail
      refine (HAR.out _ HBw.out).mono ?_
      rintro e Xc ⟨At, ct, rfl, hrt, hst⟩
      have HBw := Lib.hid (HBw.out.trans (hst.mono HBw.out.size))
      have Hfa := Lib.hid (Hfa.out.below hst)
      have Hfb := Lib.hid (Hfb.out.below hst)
      have HRt := Lib.hid hrt
      have HBt := Lib.hid (Below.refl Xc.heap.size Xc)
      have HC := Lib.hid (changes_any (some ⟨Xc.heap.size, 0, none⟩) 1 1 _ 1 _ (ints_lit Xc x1 Hx1.out) (Nat.le_refl _) (by decide))
      have HbA := Lib.hid (show Below Xc.heap.size Xc (Xc.alloc (.cells #[.int .i64 x1] 3)) from (Below.refl _ _).alloc (Nat.le_refl _) _)
      clear hrt hst HAR
      go_wp2_with fail
      refine HC.out.mono ?_
      rintro e Xd ⟨vk, ks, rfl, hok, hk6, hd6, hb6⟩
      replace hb6 := HbA.out.trans (hb6.mono HbA.out.size)
      obtain ⟨r, rfl⟩ : ∃ r, ks = [r] := by
        match ks, hk6 with
        | [r], _ => exact ⟨r, rfl⟩
      obtain ⟨Ak, ck, rfl, hrk⟩ := RInS.row hok
      replace hrk : RInS Xd _ Ak 1 ck [r] := hrk
      obtain ⟨bk, offk, rfl, -, hkc, -⟩ := hrk.all.at_ (i := 0) (by simp)
      replace hkc : Xd.cell? ⟨bk, offk, none⟩ = some (str r.key) := by simpa using hkc
      have hkl20 : r.key.length ≤ 20 := kts_len _ (drawn_keys hd6 r (by simp))
      generalize r.key = key at *
      have HBw := Lib.hid (HBw.out.trans (hb6.mono HBw.out.size))
      have Hfa := Lib.hid (Hfa.out.below hb6)
      have Hfb := Lib.hid (Hfb.out.below hb6)
      have HBt := Lib.hid (HBt.out.trans (hb6.mono HBt.out.size))
      obtain ⟨A3, c3, W3, A4, c4, W4, hrun3, hrun4, hin4, hb4, -⟩ := acts_two (HinW.out.below HBw.out) HBw.out.size (by omega) ⟨2, [], key, 0⟩ _ (ain_bare _ rfl (by simp; omega) (by simp)) #[.int .i64 2, .slice none 0 0, str key, .int .i64 0] rfl
      have HS3 := Lib.hid (stored_any A4 (l + 1) c4 W4.heap.size _ W4 hin4 (Nat.le_refl _) (by omega))
      unfold StdPost at HS3
      have hl5 : (acs ++ [(⟨2, [], key, 0⟩ : Ac)]).length = l + 1 := by have := Hl.out; simp; omega
      rw [HsnR.out key, hl5] at HS3
      have Hrun3 := Lib.hid hrun3
      have Hrun4 := Lib.hid hrun4
      have HBw := Lib.hid (HBw.out.trans (hb4.mono HBw.out.size))
      have Hfa := Lib.hid (Hfa.out.below hb4)
      have Hfb := Lib.hid (Hfb.out.below hb4)
      have HBt := Lib.hid (HBt.out.trans (hb4.mono HBt.out.size))
      have hle3 : (actsR st0 (acs ++ [(⟨2, [], key, 0⟩ : Ac)])).2.2.length ≤ 1200 := fil_len _
      generalize (actsR st0 (acs ++ [(⟨2, [], key, 0⟩ : Ac)])).2.2 = F3 at *
      generalize (actsR st0 acs).1 = T1 at *
      obtain ⟨X, hX⟩ : ∃ X, getN T key = X := ⟨_, rfl⟩
      rw [hX] at HS3
      have HX := Lib.hid hX
      clear hrun3 hrun4 hin4 hb4 hb6 hok hk6 hd6 hrk HbA HC hl5 HsnR hX
      go_wp2_with (first | (at_builtin; refine rw_app rfl _ _ _ rfl _ _ (by rfl) (by rfl) Hrun3.out ?_; clear Hrun3) | (at_builtin; refine rw_app rfl _ _ _ rfl _ _ (by rfl) (by rfl) Hrun4.out ?_; clear Hrun4) | fail)
      refine HS3.out.mono ?_
      rintro e Xe ⟨Aqe, cqe, Afe, cfe, rfl, hte, -, hst⟩
      have K1 := Lib.hid (samekeep_any Afa Afb F.length F.length cfa cfb F F Xe (((Hfa.out.below hst).mono (S' := fun b => b < Xe.heap.size) fun b hb _ => hb).2.2.2) (((Hfb.out.below hst).mono (S' := fun b => b < Xe.heap.size) fun b hb _ => hb).2.2.2) (by omega) (by omega))
      rw [beq_self_eq_true] at K1
      obtain ⟨be, offe, Ag, cg, hAe, hbbe, hrg, de0, de1⟩ := hte.at_ (i := l) (by simp [Htl.out])
      subst hAe
      have e1 : (T1 ++ [X])[l]'(by simp [Htl.out]) = X := by simp [← Htl.out]
      rw [e1] at hrg de0 de1
      have Hrg := Lib.hid hrg
      have HRt := Lib.hid ((HRt.out.below HBt.out).below (hst.mono HBt.out.size))
      have HBw := Lib.hid (HB0.out.trans ((HBw.out.trans (hst.mono HBw.out.size)).mono HB0.out.size))
      have Hbbe := Lib.hid hbbe
      have hsc : Xc.heap.size ≤ Xe.heap.size := Nat.le_trans HBt.out.size hst.size
      clear hte hst hrg e1 Hfa Hfb HS3 HBt hbbe
      go_wp2_with fail
      refine K1.out.mono ?_
      rintro e Xf ⟨rfl, q1, rfl⟩
      obtain ⟨Wf, hWf⟩ : ∃ W, Xe.drewN q1 = W := ⟨_, rfl⟩
      have Hrg := Lib.hid (show RIn Wf Xe.heap.size Ag X.2.length cg X.2 by rw [← hWf]; exact Hrg.out)
      have HRt := Lib.hid (show RIn Wf Xc.heap.size At T.length ct T by rw [← hWf]; exact HRt.out)
      have HBw := Lib.hid (show Below w.heap.size w Wf by rw [← hWf]; exact below_drewN HBw.out _)
      have de0 : Wf.cell? ⟨be, offe + l * 2, none⟩ = some (.int .i64 X.1) := by rw [← hWf]; exact de0
      have de1 : Wf.cell? ⟨be, offe + l * 2 + 1, none⟩ = some (.slice Ag X.2.length cg) := by rw [← hWf]; exact de1
      have hsf : Xe.heap.size ≤ Wf.heap.size := by rw [← hWf]; exact Nat.le_refl _
      rw [hWf]
      obtain ⟨t, ht⟩ : ∃ t, T.length = t := ⟨_, rfl⟩
      have Ht := Lib.hid ht
      rw [ht] at HRt htl ⊢
      clear hWf ht K1
      have hB0 := Blk.new Wf 31 #[.int .i64 X.1, .slice Ag X.2.length cg]
      have hb0 : Below Wf.heap.size Wf (Wf.alloc (.cells #[.int .i64 X.1, .slice Ag X.2.length cg] 31)) := (Below.refl _ _).alloc (Nat.le_refl _) _
      obtain ⟨W0, hW0⟩ : ∃ W0, Wf.alloc (.cells #[.int .i64 X.1, .slice Ag X.2.length cg] 31) = W0 := ⟨_, rfl⟩
      rw [hW0] at hB0 hb0
      have x0 : W0.cell? ⟨Wf.heap.size, 0, none⟩ = some (.int .i64 X.1) := hB0.cell 0
      have x1' : W0.cell? ⟨Wf.heap.size, 1, none⟩ = some (.slice Ag X.2.length cg) := hB0.cell 1
      have Hb0 := Lib.hid hb0
      have HW0 := Lib.hid hW0
      clear hB0 hb0 hW0
      go_wp2_with fail
      rw [HW0.out]
      have Hrg0 := Lib.hid (Hrg.out.below (Hb0.out.mono hsf))
      have HRt0 := Lib.hid (HRt.out.below (Hb0.out.mono (Nat.le_trans hsc hsf)))
      have hsz0 := Hb0.out.size
      have HBz := Lib.hid (HBw.out.trans (Hb0.out.mono HBw.out.size))
      go_loopg [21] t (NoR T key W0 t)
      case atStart => exact ⟨0, rfl, Nat.zero_le _, by omega, fun j _ h => absurd h (by omega), rfl⟩
      case round =>
        obtain ⟨j, rfl, hj, hgk2, hno, hwr⟩ := hrel
        have hwr' := hwr.symm
        subst hwr'
        clear hwr
        have Hgk2 := Lib.hid hgk2
        have Hno := Lib.hid hno
        clear hgk2 hno
        by_cases hjt : j < t
        · have hjl : j < T.length := by rw [Ht.out]; exact hjt
          have hji : (j : Int) < (t : Int) := by omega
          obtain ⟨b', off', hA, hbB', e0, e1⟩ := HRt0.out.at_ hjl
          subst hA
          by_cases hk : T[j].key = key
          · have hXe : X = (0, [T[j]]) := by
              have h1 := Hlook2.out key T[j].val (hft.good T[j] (List.getElem_mem _)).2 (look_first hjl Hno.out hk)
              rw [HX.out] at h1
              rw [h1, ← hk]
            have hkb : (T[j].key == key) = true := by simpa using hk
            generalize T[j] = r at *
            obtain ⟨rk, rv⟩ := r
            simp only at e0 e1 hkb hk
            rw [hXe] at x0 x1' Hrg0
            obtain ⟨bg, offg, hAg, hbg, g0, g1⟩ := Hrg0.out.at_ (i := 0) (by simp)
            subst hAg
            replace g0 : W0.cell? ⟨bg, offg, none⟩ = some (str rk) := by simpa using g0
            replace g1 : W0.cell? ⟨bg, offg + 1, none⟩ = some (str rv) := by simpa using g1
            replace x0 : W0.cell? ⟨Wf.heap.size, 0, none⟩ = some (.int .i64 0) := x0
            replace x1' : W0.cell? ⟨Wf.heap.size, 1, none⟩ = some (.slice (some ⟨bg, offg, none⟩) 1 cg) := x1'
            have heq := fun W => eq_row rk rv W
            have hgd := fun x y W => gd_row BinOp.eql x y rk rv W
            clear hXe hk
            go_wp2_with fail
            go_quiet (fail)
            go_wp2
            go_ret
            exact ⟨by simp, below_drewN HBz.out _⟩
          · have hkb : (T[j].key == key) = false := by simpa using hk
            have Hno2 : Hid (∀ (i : Nat) (hi : i < T.length), i < j + 1 → T[i].key ≠ key) := Lib.hid fun i hi hij => by
              by_cases e : i = j
              · subst e; exact hk
              · exact Hno.out i hi (by omega)
            generalize T[j] = r at *
            obtain ⟨rk, rv⟩ := r
            simp only at e0 e1 hkb
            clear hk
            go_wp2_with fail
            go_roundg (t - (j + 1))
            case measure => have := Hgk2.out; omega
            case rel => exact ⟨j + 1, by go_num, by omega, rfl, Hno2.out, rfl⟩
        · have hji : ¬ (j : Int) < (t : Int) := by omega
          have hXe : X = (8, []) := by
            rw [← HX.out]
            exact Hlook.out key (look_no fun i hi => Hno.out i hi (by have := Ht.out; omega))
          rw [hXe] at x0 x1'
          replace x0 : W0.cell? ⟨Wf.heap.size, 0, none⟩ = some (.int .i64 8) := x0
          replace x1' : W0.cell? ⟨Wf.heap.size, 1, none⟩ = some (.slice Ag 0 cg) := x1'
          clear hXe
          go_wp2_with fail
          go_ret
          exact ⟨by simp, HBz.out⟩
namespace storeReads
open Go.ChangeShapes Go.WideShapes Go.ChangeAt Go.RowKit
theorem own : ownKnob Try.prog.godebug = none := by kernel_rfl
theorem laidOut : laidOutB Try.prog = true := by kernel_rfl
set_option linter.unusedVariables false
set_option maxRecDepth 100000 in
theorem lifted (os : Os) (started : os.Started) (H : Type) (enc : TypeId × Value → H) :
    ReturnsInHanded {} Try.checked os 9 .any (Rows.storeReadsSpec.pre6 enc Try.prog Try.f9 Rows.storeReadsRow.domain false) (Rows.storeReadsSpec.post enc Try.prog Try.f9 false true false false) := by
  refine returnsInHanded_of_change (C := Try.checked) own started (by kernel_rfl) Try.func9
    (ChangeSpec.witness6 (enc := enc) (C := Try.checked) false ⟨#[], #[.slice none 0 0, .int .i64 0], []⟩ 8 (by kernel_rfl) (by kernel_rfl) (by kernel_rfl) (by kernel_rfl)) ?_
  intro W base args ds gs before hval0 hW hcnd _
  have hval : ∀ (j : Nat) t v, Try.f9.params[j]? = some t → args[j]? = some v → Value.okWide Try.prog W .any base t v := hval0
  have hW' := hW
  obtain ⟨p, q, hA0, hV, rfl, hfz, hnd⟩ := hW
  have hA : DataW.TrodAll enc Try.prog W 0 (fun _ => true) true Try.f9.params.toList args.toList ds p := hA0
  rw [Try.params9] at hA hval
  obtain ⟨v0, vs0, d0, ds0, p0, q0, hargs, rfl, rfl, h0, rr0⟩ := trodAll_cons hA
  obtain ⟨v1, vs1, d1, ds1, p1, q1, rfl, rfl, rfl, h1, rr1⟩ := trodAll_cons rr0
  obtain ⟨rfl, rfl, rfl⟩ := trodAll_nil rr1
  obtain rfl : args = #[v0, v1] := by cases args; simp_all
  obtain ⟨rfl, rfl⟩ := trodVars_none hV
  have k0 := h0
  have lt0 : ∀ x ∈ p0, x.block < W.heap.size := by obtain ⟨m, hm⟩ := k0; exact DataW.trod_lt m _ _ _ hm
  obtain ⟨A0, n0, c0, rfl, hx0⟩ := open_wishes (hval 0 37 v0 rfl rfl) h0
  have k1 := h1
  have lt1 : ∀ x ∈ p1, x.block < W.heap.size := by obtain ⟨m, hm⟩ := k1; exact DataW.trod_lt m _ _ _ hm
  obtain ⟨x1, rfl, hx1⟩ := open_i64 Try.underlying3 (hval 1 3 v1 rfl rfl) h1
  clear hA0 hval0
  refine (walkStoreReads A0 n0 c0 x1 W hx0 hx1).mono fun e W' ⟨he, bel⟩ => ?_
  subst he
  exact ⟨_, rfl, _, _, _, [], _, [], hW', trodAll_mk1 (shut_bool Try.underlying4 _), (trodAll_cons_mk (Below.trod laidOut (by kernel_rfl) (of_decide_eq_true (by kernel_rfl)) k0 bel lt0) (trodAll_cons_mk (Below.trod laidOut (by kernel_rfl) (of_decide_eq_true (by kernel_rfl)) k1 bel lt1) trodAll_mk0)), rfl, bel.frame _, fun h => by cases h⟩

theorem over : Rows.storeReadsRow.holds Try.pinned (OpenSpec.ofChange Rows.storeReadsSpec) :=
  OpenClaim.holds_of_wide 9 Try.f9 rfl rfl rfl rfl rfl rfl rfl ⟨rfl, rfl, rfl, rfl, rfl⟩ rfl rfl rfl rfl rfl (by kernel_rfl) Try.func9 (by kernel_rfl)
    (of_decide_eq_true (by kernel_rfl)) (by unfold Func.isWrapper; first | (rw [if_pos (by decide +kernel)]; kernel_rfl) | (rw [if_neg (by decide +kernel)]; exact ⟨rfl, rfl⟩))
    (fun os started H enc _ => lifted os started H enc)

theorem proved : Rows.StoreReadsSaid := over
#print axioms proved
end storeReads
end Go.Proofs.Ytploicbiapjfdaa
