/- Proved here: a client that always fetches from the last position receives every accepted message exactly once, in order (statement BoxOnce). No condition. -/
import Derived.Test.YtgckihglgnbaoaaBxOn
import Derived.Test.YtgckihglgnbaoaaBxLo
import Derived.Test.YtgckihglgnbaoaaOpenI
import Derived.HandedShaped
namespace Go.Proofs.Ytgckihglgnbaoaa
set_option linter.unusedVariables false
set_option linter.unusedSimpArgs false
open Go.RowKit
theorem pcP_drop : ∀ (l : List Pt) (k : Nat), (pcK ptL l).drop (k * 5) = pcK ptL (l.drop k)
  | [], k => by simp [pcK]
  | r :: l, 0 => by simp
  | r :: l, k + 1 => by
    rw [pcK_cons, List.drop_succ_cons, ← pcP_drop l k, show (k + 1) * 5 = (ptL r).length + k * 5 by rw [ptL_len]; omega, List.drop_append]
    rw [List.drop_of_length_le (by omega), List.nil_append]
    congr 1
    omega
/-- Posts of a list, cut out of it. -/
theorem ptCut {w : World} {B n c : Nat} {A : Option Addr} {l : List Pt} (h : LIn ptL 5 w B A n c l) {lo hg : Nat} (h1 : lo ≤ hg) (h2 : hg ≤ n) :
    LIn ptL 5 w B (cutAt A c lo 5) (hg - lo) (c - lo) ((l.take hg).drop lo) := by
  obtain ⟨k1, k2, k3, k4⟩ := h
  refine ⟨by rw [List.length_drop, List.length_take]; omega, by omega, fun hA => ?_, ?_⟩
  · have := k3 (cutAt_none hA); omega
  · have := k4.cut h1 h2 k2
    rw [pcP_drop, pcK_take ptL_len] at this
    rwa [List.drop_take]
def isS (p : Pt) : Bool := decide (p.kind = 1)
def OnA (W : World) (ps : List Pt) (n : Nat) (gk : Nat) (s4 s5 : Value) (wr : World) : Prop :=
  ∃ i : Nat, s5 = .int .i64 (i : Int) ∧ i ≤ n ∧ gk = n - i ∧ wr.ownsRow W.heap.size 43 5 s4 ((ps.take i).filter isS).length (pcK ptL ((ps.take i).filter isS)) ∧ Below W.heap.size W wr
def OnB (W : World) (al : List Pt) (na : Nat) (gk : Nat) (s6 s7 s9 s10 : Value) (wr : World) : Prop :=
  ∃ (j : Nat) (scr : List Pt) (g : Nat), s10 = .int .i64 ((5 * j : Nat) : Int) ∧ 5 * j ≤ na + 4 ∧ gk = 13 - j ∧ s9 = .int .i64 ((dd [] (al.take (5 * j))).length : Int) ∧ scr.length ≤ 6 * j ∧ (∀ p ∈ scr, PtOk p) ∧
    (gotsB bs0 scr).2 = ⟨dd [] (al.take (5 * j)), g, false⟩ ∧ g ≤ (dd [] (al.take (5 * j))).length ∧ (dd [] (al.take (5 * j))).length ≤ g + 5 ∧
    wr.ownsRow W.heap.size 43 5 s6 scr.length (pcK ptL scr) ∧ wr.ownsRow W.heap.size 38 3 s7 (mlF 0 (dd [] (al.take (5 * j)))).length (pcK mlL (mlF 0 (dd [] (al.take (5 * j))))) ∧ Below W.heap.size W wr
/-- The loop over the messages of one fetch. -/
def OnC (W : World) (gb : Nat) (scr : List Pt) (N : Nat) (T M : List Ml) (v6 : Value) (Am : Option Addr) (cm m B : Nat) (gk : Nat) (s7 s14 : Value) (wr : World) : Prop :=
  ∃ k : Nat, s14 = .int .i64 (k : Int) ∧ k ≤ m ∧ gk = m - k ∧ wr.ownsRow W.heap.size 38 3 s7 (T ++ M.take k).length (pcK mlL (T ++ M.take k)) ∧ wr.ownsRow W.heap.size 43 5 v6 scr.length (pcK ptL scr) ∧
    Blk wr gb 36 #[.int .i64 0, .int .i64 (N : Int), .slice Am m cm] ∧ LIn mlL 3 wr B Am m cm M ∧ (∀ g, s7.ownBlock = some g → (Value.slice Am m cm).ownBlock ≠ some g) ∧ B ≤ wr.heap.size ∧ Below W.heap.size W wr
def OnD (W : World) (al : List Pt) (T : List Ml) (na : Nat) (v7 : Value) (gk : Nat) (s8 s15 : Value) (wr : World) : Prop :=
  ∃ i : Nat, s15 = .int .i64 (i : Int) ∧ i ≤ na ∧ gk = na - i ∧ wr.ownsRow W.heap.size 43 5 s8 (dd [] (al.take i)).length (pcK ptL (dd [] (al.take i))) ∧ wr.ownsRow W.heap.size 38 3 v7 T.length (pcK mlL T) ∧ Below W.heap.size W wr
def OnE (W : World) (sent : List Pt) (p : Pt) (m : Nat) (gk : Nat) (s16 s17 : Value) (wr : World) : Prop :=
  ∃ j q : Nat, s17 = .int .i64 (j : Int) ∧ j ≤ m ∧ gk = m - j ∧ s16 = .bool (hadR (sent.take j) p) ∧ wr = W.drewN q
def OnF (W : World) (m : Nat) (gk : Nat) (s20 : Value) (wr : World) : Prop := ∃ i q : Nat, s20 = .int .i64 (i : Int) ∧ i ≤ m ∧ gk = m - i ∧ wr = W.drewN q
theorem on_add (w : World) (q p : Nat) : (w.drewN q).drewN p = w.drewN (q + p) := by simp [World.drewN, Nat.add_assoc]
theorem had_stepO {acc : List Pt} {p : Pt} {i : Nat} (hi : i < acc.length) : hadR (acc.take (i + 1)) p = (hadR (acc.take i) p || (acc[i].frm == p.frm && decide (acc[i].txn = p.txn))) := by
  unfold hadR
  rw [List.take_succ_eq_append_getElem hi, List.any_append]
  simp
set_option maxHeartbeats 8000000 in
set_option maxRecDepth 100000 in
theorem walkBoxOnce (A0 : Option Addr) (n0 c0 : Nat) (w : World) (hx0 : IntsAt w w.heap.size A0 n0 c0) (hsh : w.ShapedOpen Try.prog) :
    Calls Try.prog 5 #[.slice A0 n0 c0] w fun e w' => e = .returned (.bool true) ∧ Below w.heap.size w w' := by
  have hg := Gl.of hsh
  have H1 := Lib.hid (posts_any A0 n0 c0 w.heap.size 60 w hx0 (Nat.le_refl _) (by decide))
  have Hg := Lib.hid hg
  clear hx0 hsh hg
  go_enter Try.func5, Try.ntmps5
  go_wp2_with fail
  refine H1.out.mono ?_
  rintro e w1 ⟨v1, ps, rfl, ho1, hlen, hok, b1⟩
  obtain ⟨A1, c1, rfl, hin1⟩ := LIn.own ptL_len ho1
  obtain ⟨n, hn⟩ : ∃ n, ps.length = n := ⟨_, rfl⟩
  have hn60 : n ≤ 60 := by omega
  rw [hn] at hin1 ⊢
  have Hn := Lib.hid hn
  have Hin1 := Lib.hid hin1
  have B1 := Lib.hid b1
  have Hok := Lib.hid hok
  clear ho1 hlen hok b1 hin1 hn H1
  go_wp2_with fail
  go_loopg [4, 5] n (OnA w1 ps n)
  case atStart => exact ⟨0, rfl, Nat.zero_le _, by omega, World.ownsRow_nil _ _ _ _, Below.refl _ _⟩
  case round =>
    obtain ⟨i, rfl, hi, hgk, ho4, hbe⟩ := hrel
    have Hgk := Lib.hid hgk
    have Ho4 := Lib.hid ho4
    have Hbe := Lib.hid hbe
    clear hgk ho4 hbe
    by_cases hin : i < n
    · have hii : (i : Int) < (n : Int) := by omega
      have hil : i < ps.length := by rw [Hn.out]; exact hin
      obtain ⟨bp, op, hA1, hbp, d0, d1, d2, d3, d4⟩ := pt_at (Hin1.out.below Hbe.out) hil
      subst hA1
      have hfl : (ps.take (i + 1)).filter isS = (ps.take i).filter isS ++ (if ps[i].kind = 1 then [ps[i]] else []) := by
        rw [List.take_succ_eq_append_getElem hil, List.filter_append]
        congr 1
        by_cases h : ps[i].kind = 1 <;> simp [isS, h]
      have hl1 : ((ps.take i).filter isS).length ≤ i := by
        have := List.length_filter_le isS (ps.take i)
        rw [List.length_take] at this; omega
      obtain ⟨⟨pk, pf, pn, pb, pq⟩, hpi⟩ : ∃ q, ps[i] = q := ⟨_, rfl⟩
      rw [hpi] at d0 d1 d2 d3 d4 hfl
      simp only at d0 d1 d2 d3 d4 hfl
      have hbpw : bp < wr.heap.size := by have := Hbe.out.size; omega
      have Hfl := Lib.hid hfl
      clear hpi hfl
      by_cases hk : pk = 1
      · subst hk
        rw [if_pos rfl] at Hfl
        obtain ⟨v6, w6, hrun6, ho6, hb6⟩ := post_more Ho4.out Hbe.out (Nat.le_refl _) ⟨1, pf, pn, pb, pq⟩ #[.int .i64 1, str pf, .int .i64 pn, str pb, .int .i64 pq] rfl (by omega)
        have Hrun6 := Lib.hid hrun6
        have Ho6 := Lib.hid (show w6.ownsRow w1.heap.size 43 5 v6 ((ps.take (i + 1)).filter isS).length (pcK ptL ((ps.take (i + 1)).filter isS)) by rw [Hfl.out, List.length_append]; exact ho6)
        have Hb6 := Lib.hid hb6
        clear hrun6 ho6 hb6
        go_wp2_with (first | (at_builtin; refine bx_app rfl _ _ _ rfl _ _ (by rfl) (by rfl) Hrun6.out ?_; clear Hrun6) | fail)
        go_roundg (n - (i + 1))
        case measure => have := Hgk.out; omega
        case rel => exact ⟨i + 1, by go_num, by omega, rfl, Ho6.out, Hb6.out⟩
      · have hk1 : (pk == 1) = false := by simpa using hk
        rw [if_neg hk, List.append_nil] at Hfl
        go_wp2_with fail
        go_roundg (n - (i + 1))
        case measure => have := Hgk.out; omega
        case rel => exact ⟨i + 1, by go_num, by omega, rfl, by rw [Hfl.out]; exact Ho4.out, Hbe.out⟩
    · have hii : ¬ (i : Int) < (n : Int) := by omega
      have hte : ps.take i = ps := List.take_of_length_le (by rw [Hn.out]; omega)
      have ho4 := Ho4.out
      rw [hte] at ho4
      have hGa : ∀ p ∈ ps.filter isS, GoodS p ∧ PtOk p := fun p hp => by
        obtain ⟨h1, h2⟩ := List.mem_filter.1 hp
        exact ⟨okP_good (Hok.out p h1) (by simpa [isS] using h2), okP_ok (Hok.out p h1)⟩
      have hla : (ps.filter isS).length ≤ 60 := by
        have := List.length_filter_le isS ps
        have := Hn.out; omega
      generalize ps.filter isS = al at *
      obtain ⟨A4, c4, rfl, hin4⟩ := LIn.own ptL_len ho4
      obtain ⟨na, hna⟩ : ∃ na, al.length = na := ⟨_, rfl⟩
      rw [hna] at hla hin4 ⊢
      obtain ⟨W2, hW2⟩ : ∃ W2, W2 = wr := ⟨_, rfl⟩
      subst hW2
      have HGa := Lib.hid hGa
      have Hin4 := Lib.hid hin4
      have Hna := Lib.hid hna
      have HB2 := Lib.hid (B1.out.trans (Hbe.out.mono B1.out.size))
      clear hte ho4 hGa hin4 hna Ho4 Hbe Hok Hn Hin1 B1 Hgk hi hin hn60
      go_wp2_with fail
      go_loopg [6, 7, 9, 10] 13 (OnB W2 al na)
      case atStart => exact ⟨0, [], 0, rfl, by omega, rfl, rfl, by simp, by simp, rfl, by simp, by simp [dd], World.ownsRow_nil _ _ _ _, World.ownsRow_nil _ _ _ _, Below.refl _ _⟩
      case round =>
        obtain ⟨j, scr, g, rfl, hj, hgk, rfl, hsl, hsok, hst, hg1, hg2, ho6, ho7, hbe⟩ := hrel
        obtain ⟨x, hx5⟩ : ∃ x, 5 * j = x := ⟨_, rfl⟩
        rw [hx5] at hj hst hg1 hg2 ho7 ⊢
        have Hgk := Lib.hid hgk
        have Ho6 := Lib.hid ho6
        have Ho7 := Lib.hid ho7
        have Hbe := Lib.hid hbe
        have Hsok := Lib.hid hsok
        have Hst := Lib.hid hst
        have Hx5 := Lib.hid hx5
        have hszw := hbe.size
        clear hgk ho6 ho7 hbe hsok hst hx5
        by_cases hjn : x < na
        · have hji : (x : Int) < (na : Int) := by omega
          have hj11 : j ≤ 11 := by have := Hx5.out; omega
          obtain ⟨h, hh⟩ : ∃ h, min na (x + 5) = h := ⟨_, rfl⟩
          have hhx : x ≤ h ∧ h ≤ na ∧ h ≤ x + 5 := by omega
          have hmin : min (na : Int) ((x : Int) + 5) = (h : Int) := by omega
          have hwx : IntKind.i64.wrap ((x : Int) + 5) = (x : Int) + 5 := IntWalk.i64_in _ (by omega)
          obtain ⟨nb, hnb⟩ : ∃ nb, h - x = nb := ⟨_, rfl⟩
          have hnb5 : nb ≤ 5 := by omega
          have hcut := ptCut (Hin4.out.below Hbe.out) hhx.1 hhx.2.1
          have hbG : ∀ p ∈ (al.take h).drop x, GoodS p ∧ PtOk p := fun p hp => HGa.out p (List.mem_of_mem_take (List.mem_of_mem_drop hp))
          have hbl := hcut.1
          have htk : al.take (x + 5) = al.take x ++ (al.take h).drop x := by
            have e1 : al.take (x + 5) = al.take h := by
              rw [← hh, ← Hna.out, List.take_eq_take_iff]
              omega
            rw [e1]
            have e2 : al.take x = (al.take h).take x := by rw [List.take_take, Nat.min_eq_left hhx.1]
            rw [e2, List.take_append_drop]
          have hdd : dd [] (al.take (x + 5)) = dd (dd [] (al.take x)) ((al.take h).drop x) := by rw [htk, dd_app]
          rw [hnb] at hcut hbl
          generalize (al.take h).drop x = b at *
          obtain ⟨i0, hi0, hz0, hzs, hzb⟩ := info_parts info_post
          have s1 := fun W => run_cut_lh (P := Try.prog) W 30 43 i0 Try.underlying30 hi0 A4 na c4 .i64 .i64 (x : Int) (h : Int) x h rfl rfl hhx.1 (by have := Hin4.out.2.1; omega)
          rw [hzs, hnb] at s1
          have hDl : (dd [] (al.take x)).length ≤ 60 := by
            obtain ⟨e, he, hel, -⟩ := dd_pre (al.take x) []
            rw [he, List.nil_append]
            rw [List.length_take] at hel
            have := Hna.out
            omega
          generalize dd [] (al.take x) = D at *
          obtain ⟨r1, r2, r3, r4, r5⟩ := once_round (b := b) Hst.out hg1 hg2 (by omega) (fun p hp => (hbG p hp).1)
          rw [← hdd] at r1 r2 r3 r4 r5
          obtain ⟨v5, w5, hrun5, ho5, hg5⟩ := posts_moreG Ho6.out hcut hszw (by omega)
          have hb5 : Below W2.heap.size W2 w5 := Hbe.out.grown hg5 hszw fun g hg => (World.ownsRow.lt Ho6.out g hg).1
          have ho75 := own_apart Ho7.out hg5 fun g h1 h2 => (apt_types Ho7.out Ho6.out (by decide)) g h1 h2
          obtain ⟨v6, w6, hrun6, ho6', hg6⟩ := post_moreG ho5 hb5.size ⟨2, [], 0, [], (D.length : Int)⟩ #[.int .i64 2, .string ⟨#[]⟩, .int .i64 0, .string ⟨#[]⟩, .int .i64 (D.length : Int)] rfl (by omega)
          have hb6 : Below W2.heap.size W2 w6 := hb5.grown hg6 hb5.size fun g hg => (World.ownsRow.lt ho5 g hg).1
          have ho76 := own_apart ho75 hg6 fun g h1 h2 => (apt_types ho75 ho5 (by decide)) g h1 h2
          have hsl' : (scr ++ b ++ [(⟨2, [], 0, [], (D.length : Int)⟩ : Pt)]).length = scr.length + nb + 1 := by simp [hbl]; omega
          have hsok' : ∀ p ∈ scr ++ b ++ [(⟨2, [], 0, [], (D.length : Int)⟩ : Pt)], PtOk p := fun p hp => by
            rcases List.mem_append.1 hp with hp | hp
            · rcases List.mem_append.1 hp with hp | hp
              · exact Hsok.out p hp
              · exact (hbG p hp).2
            · have e : p = ⟨2, [], 0, [], (D.length : Int)⟩ := by simpa using hp
              rw [e]; simp [PtOk]
          rw [hbl] at r2
          have hRl : (gotsB bs0 (scr ++ b ++ [(⟨2, [], 0, [], (D.length : Int)⟩ : Pt)])).1.length = scr.length + nb + 1 := by rw [gotsB_len, hsl']
          generalize scr ++ b ++ [(⟨2, [], 0, [], (D.length : Int)⟩ : Pt)] = scr' at *
          rw [← hsl'] at ho6'
          obtain ⟨A6, c6, hv6, hin6⟩ := LIn.own ptL_len ho6'
          subst hv6
          rw [hsl'] at hin6
          simp only [hsl'] at hrun6
          have HP := Lib.hid (posted_lo A6 (scr.length + nb + 1) c6 w6.heap.size scr' w6 hin6 (Nat.le_refl _) (by omega) (Hg.out.below (HB2.out.trans (hb6.mono HB2.out.size))) hsok')
          unfold PdPostL at HP
          rw [hsl'] at HP
          have HR1 := Lib.hid r1
          have HR2 := Lib.hid r2
          have HR3 := Lib.hid r3
          have HRl := Lib.hid hRl
          have HD := Lib.hid hdd
          generalize (gotsB bs0 scr').1 = R at *
          obtain ⟨D', hD'⟩ : ∃ D', dd [] (al.take (x + 5)) = D' := ⟨_, rfl⟩
          rw [hD'] at HR1 HR2 HR3 r4 r5
          have HD' := Lib.hid hD'
          have Hrun5 := Lib.hid hrun5
          have Hrun6 := Lib.hid hrun6
          have Ho6' := Lib.hid ho6'
          have Ho76 := Lib.hid ho76
          have Hb6 := Lib.hid hb6
          have Hsl' := Lib.hid hsl'
          have Hsok' := Lib.hid hsok'
          clear hcut hbG hbl htk hdd hi0 hz0 hzs hzb r1 r2 r3 hrun5 ho5 hg5 hb5 ho75 hrun6 ho6' hg6 hb6 ho76 hsl' hsok' hRl hin6 hD' Ho6 Ho7 Hsok Hst
          go_wp2_with (first | (at_builtin; refine bx_app rfl _ _ _ rfl _ _ (by rfl) (by rfl) Hrun5.out ?_; clear Hrun5) | (at_builtin; refine bx_app rfl _ _ _ rfl _ _ (by rfl) (by rfl) Hrun6.out ?_; clear Hrun6) | fail)
          refine HP.out.mono ?_
          rintro e w7 ⟨A7, c7, rfl, hin7, hlo7, hb7⟩
          obtain ⟨ns, hns⟩ : ∃ ns, scr.length + nb = ns := ⟨_, rfl⟩
          rw [hns] at hin7 HRl HR2 Hsl' ⊢
          have hnsl : ns ≤ 80 := by omega
          have hns6 : ns + 1 ≤ 6 * (j + 1) := by omega
          have hidx : ns < R.length := by rw [HRl.out]; omega
          obtain ⟨bg, og, Am, cm, hA7, hbg, hml, e0, e1, e2⟩ := hin7.at_ hidx
          subst hA7
          have hlo := hlo7 ns hidx Am _ cm ⟨bg, og, rfl, e2⟩
          have hRi := HR2.out
          rw [List.getElem?_eq_getElem hidx] at hRi
          injection hRi with hRi
          simp only [hRi] at e0 e1 e2 hml hlo
          have hMl : (mlF D.length (D'.drop D.length)).length = D'.length - D.length := by rw [mlF_len, List.length_drop]
          have HMg : Hid (∀ i, i < D'.length - D.length → ∃ f b, (mlF D.length (D'.drop D.length))[i]? = some ⟨((D.length + i : Nat) : Int) + 1, f, b⟩) := Lib.hid fun i hi => ⟨_, _, mlF_get D.length (D'.drop D.length) i (by rw [List.length_drop]; exact hi)⟩
          have hT3 := HR3.out
          generalize hMM : mlF D.length (D'.drop D.length) = M at *
          have HT3 := Lib.hid hT3
          obtain ⟨m, hm⟩ : ∃ m, D'.length - D.length = m := ⟨_, rfl⟩
          rw [hm] at hMl HMg
          rw [hMl] at e2 hml hlo
          have hm5 : m ≤ 5 := by omega
          have hDm : D'.length = D.length + m := by omega
          obtain ⟨N, hN⟩ : ∃ N, D'.length = N := ⟨_, rfl⟩
          rw [hN] at e1 hDm
          have HDm := Lib.hid hDm
          have HN := Lib.hid hN
          have HMl := Lib.hid hMl
          obtain ⟨dl, hdl⟩ : ∃ dl, D.length = dl := ⟨_, rfl⟩
          rw [hdl] at HDm HMg hDl ⊢
          have Hdl := Lib.hid hdl
          have ho77 := own_below Ho76.out hb7
          have ho67 := own_below Ho6'.out hb7
          obtain ⟨W8, hW8⟩ : ∃ W8, w7.alloc (.cells #[.int .i64 0, .int .i64 (N : Int), .slice Am m cm] 36) = W8 := ⟨_, rfl⟩
          have hB8 := Blk.new w7 36 #[.int .i64 0, .int .i64 (N : Int), .slice Am m cm]
          have hb8 : Below w7.heap.size w7 W8 := by rw [← hW8]; exact (Below.refl _ _).alloc (Nat.le_refl _) _
          rw [hW8] at hB8
          have hsep : ∀ g, u7.ownBlock = some g → (Value.slice Am m cm).ownBlock ≠ some g := fun g hg hg' => by
            have k1 := (World.ownsRow.lt Ho76.out g hg).2
            have k2 := hlo g hg'
            omega
          have hb68 : Below W2.heap.size W2 W8 := (Hb6.out.trans (hb7.mono Hb6.out.size)).trans (hb8.mono (by have := Hb6.out.size; have := hb7.size; omega))
          have Hst3 := Lib.hid (show OnC W2 w7.heap.size scr' N (mlF 0 D) M (.slice A6 (ns + 1) c6) Am cm m w7.heap.size m u7 (.int .i64 0) W8 from
            ⟨0, rfl, Nat.zero_le _, by omega, by rw [List.take_zero, List.append_nil]; exact own_below ho77 hb8, by rw [Hsl'.out]; have := own_below ho67 hb8; rwa [Hsl'.out] at this, hB8, hml.below hb8, hsep, hb8.size, hb68⟩)
          have c0 : W8.cell? ⟨w7.heap.size, 0, none⟩ = some (.int .i64 0) := hB8.cell 0
          have c1 : W8.cell? ⟨w7.heap.size, 1, none⟩ = some (.int .i64 (N : Int)) := hB8.cell 1
          have c2 : W8.cell? ⟨w7.heap.size, 2, none⟩ = some (.slice Am m cm) := hB8.cell 2
          have hwl : IntKind.i64.wrap (((ns + 1 : Nat) : Int) - 1) = (ns : Int) := by rw [IntWalk.i64_in _ (by omega)]; omega
          have hidxi : (ns : Int) < ((ns + 1 : Nat) : Int) := by omega
          have h00 : ((0 : Int) != 0) = false := by decide
          clear hin7 hlo7 hb7 hlo hRi hMl hT3 hN hDm hdl ho77 ho67 hB8 hb8 hsep hb68 hml HP Ho76 Ho6' Hb6 hMM hns hm
          go_wp2_with fail
          go_loopg [7, 14] m (OnC W2 w7.heap.size scr' N (mlF 0 D) M (.slice A6 (ns + 1) c6) Am cm m w7.heap.size)
          case atStart => exact Hst3.out
          case round =>
            clear Hst3
            obtain ⟨k, rfl, hk, hgk3, ho7k, ho6k, hBk, hMk, hsep, hBs, hbe3⟩ := hrel
            have Hgk3 := Lib.hid hgk3
            have Ho7k := Lib.hid ho7k
            have Ho6k := Lib.hid ho6k
            have HMk := Lib.hid hMk
            have Hsep := Lib.hid hsep
            have Hbe3 := Lib.hid hbe3
            have HBk := Lib.hid hBk
            have c2 : wr.cell? ⟨w7.heap.size, 2, none⟩ = some (.slice Am m cm) := hBk.cell 2
            have c1 : wr.cell? ⟨w7.heap.size, 1, none⟩ = some (.int .i64 (N : Int)) := hBk.cell 1
            have hg7 := hBk.lt
            clear hgk3 ho7k ho6k hMk hsep hbe3 hBk
            by_cases hkm : k < m
            · have hki : (k : Int) < (m : Int) := by omega
              have hkM : k < M.length := by rw [HMl.out]; exact hkm
              obtain ⟨bm, om, hAm, hbm, m0, m1, m2⟩ := ml_at HMk.out hkM
              subst hAm
              obtain ⟨zf, zb, hMgk⟩ := HMg.out k hkm
              rw [List.getElem?_eq_getElem hkM] at hMgk
              injection hMgk with hMgk
              have hat : M[k].at_ = (dl : Int) + 1 + (k : Int) := by rw [hMgk]; simp only; omega
              have Htk := Lib.hid (show mlF 0 D ++ M.take (k + 1) = (mlF 0 D ++ M.take k) ++ [M[k]] by rw [List.take_succ_eq_append_getElem hkM, List.append_assoc])
              obtain ⟨⟨ma, mf, mb⟩, hmk⟩ : ∃ q, M[k] = q := ⟨_, rfl⟩
              rw [hmk] at m0 m1 m2 hat Htk
              simp only at m0 m1 m2 hat
              subst hat
              have hw1 : IntKind.i64.wrap ((dl : Int) + 1) = (dl : Int) + 1 := IntWalk.i64_in _ (by omega)
              have hw2 : IntKind.i64.wrap ((dl : Int) + 1 + (k : Int)) = (dl : Int) + 1 + (k : Int) := IntWalk.i64_in _ (by omega)
              have hne0 : ((dl : Int) + 1 + (k : Int) != (dl : Int) + 1 + (k : Int)) = false := by simp
              have hbmw : bm < wr.heap.size := by omega
              have hlen : (mlF 0 D ++ M.take k).length + 1 ≤ 1048576 := by
                rw [List.length_append, mlF_len, List.length_take, Hdl.out]; omega
              obtain ⟨v7, w9, hrun9, ho9, hg9, hor⟩ := run_app_el (P := Try.prog) (enc := mlL) mlL_len mlL_one (by omega) Try.underlying34 info_mail rfl (by omega) wr W2.heap.size _ u7 _ ⟨(dl : Int) + 1 + (k : Int), mf, mb⟩ #[.int .i64 ((dl : Int) + 1 + (k : Int)), str mf, str mb] rfl Ho7k.out hlen Hbe3.out.size
              have hg9' : wr.grownBy w9 u7.ownBlock := (World.grownBy_alloc wr _ _).trans hg9
              have hlen9 : (mlF 0 D ++ M.take (k + 1)).length = (mlF 0 D ++ M.take k).length + 1 := by rw [Htk.out]; simp; omega
              have Hrun9 := Lib.hid hrun9
              have Hnx := Lib.hid (show OnC W2 w7.heap.size scr' N (mlF 0 D) M (.slice A6 (ns + 1) c6) (some ⟨bm, om, none⟩) cm m w7.heap.size (m - (k + 1)) v7 (.int .i64 ((k + 1 : Nat) : Int)) w9 from
                ⟨k + 1, rfl, by omega, rfl, by rw [hlen9, Htk.out]; exact ho9, own_apart Ho6k.out hg9' fun g h1 h2 => (apt_types Ho6k.out Ho7k.out (by decide)) g h1 h2,
                  HBk.out.grown hg9' (fun e => apt_box Ho7k.out HBk.out (by decide) e.symm), HMk.out.kept fun b hb => hg9'.block b (by (have hb' : bm = b := (by simpa [Value.ownBlock] using hb)); omega) (fun e => Hsep.out b e.symm hb), fun g hg hg' => by
                    rcases hor with e | e
                    · exact Hsep.out g (e ▸ hg) hg'
                    · rw [hg] at e; injection e with e; (have hg2 : bm = g := (by simpa [Value.ownBlock] using hg')); omega, Nat.le_trans hBs hg9'.size, Hbe3.out.grown hg9' Hbe3.out.size fun g hg => (World.ownsRow.lt Ho7k.out g hg).1⟩)
              clear hMgk hmk hrun9 ho9 hg9 hor hg9' hlen9 hlen Htk
              go_wp2_with (first | (at_builtin; refine bx_app rfl _ _ _ rfl _ _ (by rfl) (by rfl) Hrun9.out ?_; clear Hrun9) | fail)
              go_roundg (m - (k + 1))
              case measure => have := Hgk3.out; omega
              case rel => exact Hnx.out
            · obtain rfl : k = m := by omega
              have hki : ¬ (k : Int) < (k : Int) := by omega
              have hte : M.take k = M := List.take_of_length_le (by rw [HMl.out]; omega)
              have ho7 := Ho7k.out
              rw [hte, HT3.out] at ho7
              have hwn : IntKind.i64.wrap ((dl : Int) + (k : Int)) = (N : Int) := by have := HDm.out; rw [IntWalk.i64_in _ (by omega)]; omega
              have hNN : ((N : Int) != (N : Int)) = false := by simp
              have hx6 : x + 5 = 5 * (j + 1) := by have := Hx5.out; omega
              have Hfin := Lib.hid (show OnB W2 al na (13 - (j + 1)) (.slice A6 (ns + 1) c6) u7 (.int .i64 (N : Int)) (.int .i64 ((x + 5 : Nat) : Int)) wr from
                ⟨j + 1, scr', D.length, by rw [hx6], by omega, rfl, by rw [← hx6, HD'.out, HN.out], by rw [Hsl'.out]; omega, Hsok'.out, by rw [← hx6, HD'.out]; exact HR1.out, by rw [← hx6, HD'.out]; exact r4, by rw [← hx6, HD'.out]; exact r5, by rw [Hsl'.out] at Ho6k ⊢; exact Ho6k.out, by rw [← hx6, HD'.out]; exact ho7, Hbe3.out⟩)
              have hxx : ((x + 5 : Nat) : Int) = (x : Int) + 5 := by omega
              rw [hxx] at Hfin
              clear hte ho7 Ho7k Ho6k HMk Hsep HBk Hbe3
              go_wp2_with fail
              go_roundg (13 - (j + 1))
              case measure => have := Hgk.out; omega
              case rel => exact Hfin.out
        · have hji : ¬ (x : Int) < (na : Int) := by omega
          have hte : al.take x = al := List.take_of_length_le (by rw [Hna.out]; omega)
          rw [hte] at Ho7 ⊢
          have hTl : (mlF 0 (dd [] al)).length = (dd [] al).length := mlF_len _ _
          have hSl : (dd [] al).length ≤ 60 := by
            obtain ⟨e, he, hel, -⟩ := dd_pre al []
            rw [he, List.nil_append]
            have := Hna.out
            omega
          have HTg : Hid (∀ i (hi : i < (dd [] al).length), (mlF 0 (dd [] al))[i]? = some ⟨((0 + i : Nat) : Int) + 1, (dd [] al)[i].frm, (dd [] al)[i].body⟩) := Lib.hid fun i hi => mlF_get 0 (dd [] al) i hi
          generalize hTT : mlF 0 (dd [] al) = T at *
          obtain ⟨A7, c7, hv7, hin7⟩ := LIn.own mlL_len Ho7.out
          subst hv7
          have Hst4 := Lib.hid (show OnD W2 al T na (.slice A7 T.length c7) na (.slice none 0 0) (.int .i64 0) wr from ⟨0, rfl, Nat.zero_le _, by omega, by rw [List.take_zero]; exact World.ownsRow_nil _ _ _ _, Ho7.out, Hbe.out⟩)
          have HTl := Lib.hid hTl
          have HTT := Lib.hid hTT
          clear hte hTl hTT hin7 Ho6 Ho7 Hsok Hst hg1 hg2 hj hsl Hgk Hx5
          obtain ⟨tl, htl⟩ : ∃ tl, T.length = tl := ⟨_, rfl⟩
          rw [htl] at Hst4 HTl ⊢
          have Htl := Lib.hid htl
          clear htl
          go_wp2_with fail
          go_loopg [8, 15] na (OnD W2 al T na (.slice A7 tl c7))
          case atStart => exact Hst4.out
          case round =>
            clear Hst4
            obtain ⟨i, rfl, hi, hgk4, ho8, ho7, hbe4⟩ := hrel
            have Hgk4 := Lib.hid hgk4
            have Ho8 := Lib.hid ho8
            have Ho7 := Lib.hid ho7
            have Hbe4 := Lib.hid hbe4
            have hszw4 := hbe4.size
            clear hgk4 ho7 hbe4
            obtain ⟨A8, c8, hv8, hin8⟩ := LIn.own ptL_len ho8
            subst hv8
            have Hin8 := Lib.hid hin8
            clear ho8 hin8
            by_cases hin : i < na
            · have hii2 : (i : Int) < (na : Int) := by omega
              have hil : i < al.length := by rw [Hna.out]; exact hin
              have Hstep := Lib.hid (dd_step hil)
              have hsle : (dd [] (al.take i)).length ≤ 60 := by
                obtain ⟨e, he, hel, -⟩ := dd_pre (al.take i) []
                rw [he, List.nil_append]
                rw [List.length_take] at hel
                omega
              obtain ⟨ba, oa, hA4, hba, d0, d1, d2, d3, d4⟩ := pt_at (Hin4.out.below Hbe4.out) hil
              obtain ⟨⟨pk, pf, pn, pb, pq⟩, hpi⟩ : ∃ q, al[i] = q := ⟨_, rfl⟩
              rw [hpi] at d0 d1 d2 d3 d4 Hstep
              simp only at d0 d1 d2 d3 d4
              have HA4 := Lib.hid hA4
              generalize dd [] (al.take i) = sent at *
              obtain ⟨m8, hm8⟩ : ∃ m8, sent.length = m8 := ⟨_, rfl⟩
              rw [hm8] at Hin8 hsle ⊢
              have Hm8 := Lib.hid hm8
              clear hpi hm8 hA4
              obtain ⟨W4, hW4⟩ : ∃ W4, W4 = wr := ⟨_, rfl⟩
              subst hW4
              have hba4 : ba < W4.heap.size := by omega
              go_wp2_with fail
              go_loopg [16, 17] m8 (OnE W4 sent ⟨pk, pf, pn, pb, pq⟩ m8)
              case atStart => exact ⟨0, 0, rfl, Nat.zero_le _, by omega, rfl, rfl⟩
              case round =>
                obtain ⟨j5, q5, rfl, hj5, hgk5, rfl, rfl⟩ := hrel
                have Hgk5 := Lib.hid hgk5
                clear hgk5
                have hA4 := HA4.out
                subst hA4
                by_cases hjm : j5 < m8
                · have hji5 : (j5 : Int) < (m8 : Int) := by omega
                  have hjl : j5 < sent.length := by rw [Hm8.out]; exact hjm
                  obtain ⟨bs, os, hA8, hbs, f0, f1, f2, f3, f4⟩ := pt_at Hin8.out hjl
                  subst hA8
                  have Hs := Lib.hid (had_stepO (p := ⟨pk, pf, pn, pb, pq⟩) hjl)
                  simp only at Hs
                  obtain ⟨⟨qk, qf, qn, qb, qs⟩, hq⟩ : ∃ q, sent[j5] = q := ⟨_, rfl⟩
                  rw [hq] at f0 f1 f2 f3 f4 Hs
                  simp only at f0 f1 f2 f3 f4 Hs
                  obtain ⟨had, hhad⟩ : ∃ z, hadR (sent.take j5) ⟨pk, pf, pn, pb, pq⟩ = z := ⟨_, rfl⟩
                  rw [hhad] at Hs ⊢
                  clear hq hhad
                  cases had with
                  | true =>
                    have hst : Hid (hadR (sent.take (j5 + 1)) ⟨pk, pf, pn, pb, pq⟩ = true) := Lib.hid (by rw [Hs.out]; simp)
                    clear Hs
                    go_wp2_with fail
                    go_quiet (fail)
                    go_wp2_with fail
                    go_roundg (m8 - (j5 + 1))
                    case measure => have := Hgk5.out; omega
                    case rel => exact ⟨j5 + 1, _, by go_num, by omega, rfl, by rw [hst.out], rfl⟩
                  | false =>
                    cases hqf : (qf == pf) with
                    | false =>
                      have hst : Hid (hadR (sent.take (j5 + 1)) ⟨pk, pf, pn, pb, pq⟩ = false) := Lib.hid (by rw [Hs.out, hqf]; simp)
                      clear Hs
                      go_wp2_with fail
                      go_quiet (fail)
                      go_wp2_with fail
                      go_roundg (m8 - (j5 + 1))
                      case measure => have := Hgk5.out; omega
                      case rel => exact ⟨j5 + 1, _, by go_num, by omega, rfl, by rw [hst.out], rfl⟩
                    | true =>
                      by_cases hqn : qn = pn
                      · have hst : Hid (hadR (sent.take (j5 + 1)) ⟨pk, pf, pn, pb, pq⟩ = true) := Lib.hid (by rw [Hs.out, hqf, decide_eq_true hqn]; simp)
                        subst hqn
                        have hqq : (qn == qn) = true := by simp
                        have hqd : decide (qn = qn) = true := by simp
                        clear Hs
                        go_wp2_with fail
                        go_quiet (fail)
                        go_wp2_with fail
                        go_roundg (m8 - (j5 + 1))
                        case measure => have := Hgk5.out; omega
                        case rel => exact ⟨j5 + 1, _, by go_num, by omega, rfl, by rw [hst.out], rfl⟩
                      · have hst : Hid (hadR (sent.take (j5 + 1)) ⟨pk, pf, pn, pb, pq⟩ = false) := Lib.hid (by rw [Hs.out, hqf, decide_eq_false hqn]; simp)
                        have hqn2 : (qn == pn) = false := by simpa using hqn
                        have hqd : decide (qn = pn) = false := decide_eq_false hqn
                        clear Hs
                        go_wp2_with fail
                        go_quiet (fail)
                        go_wp2_with fail
                        go_roundg (m8 - (j5 + 1))
                        case measure => have := Hgk5.out; omega
                        case rel => exact ⟨j5 + 1, _, by go_num, by omega, rfl, by rw [hst.out], rfl⟩
                · have hji5 : ¬ (j5 : Int) < (m8 : Int) := by omega
                  have hte5 : sent.take j5 = sent := List.take_of_length_le (by rw [Hm8.out]; omega)
                  rw [hte5]
                  obtain ⟨Wq, hWq⟩ : ∃ Wq, W4.drewN q5 = Wq := ⟨_, rfl⟩
                  have hbq : Below W4.heap.size W4 Wq := by rw [← hWq]; exact below_drewN (Below.refl _ _) _
                  have ho8q := own_below Ho8.out hbq
                  have ho7q := own_below Ho7.out hbq
                  have hbeq := Hbe4.out.trans (hbq.mono hszw4)
                  have e0 : Wq.cell? ⟨ba, oa + i * 5, none⟩ = some (.int .i64 pk) := (hbq.cell (p := ⟨ba, oa + i * 5, none⟩) hba4).trans d0
                  have e1 : Wq.cell? ⟨ba, oa + i * 5 + 1, none⟩ = some (str pf) := (hbq.cell (p := ⟨ba, oa + i * 5 + 1, none⟩) hba4).trans d1
                  have e2 : Wq.cell? ⟨ba, oa + i * 5 + 2, none⟩ = some (.int .i64 pn) := (hbq.cell (p := ⟨ba, oa + i * 5 + 2, none⟩) hba4).trans d2
                  have e3 : Wq.cell? ⟨ba, oa + i * 5 + 3, none⟩ = some (str pb) := (hbq.cell (p := ⟨ba, oa + i * 5 + 3, none⟩) hba4).trans d3
                  have e4 : Wq.cell? ⟨ba, oa + i * 5 + 4, none⟩ = some (.int .i64 pq) := (hbq.cell (p := ⟨ba, oa + i * 5 + 4, none⟩) hba4).trans d4
                  rw [hWq]
                  cases hhad : hadR sent ⟨pk, pf, pn, pb, pq⟩ with
                  | true =>
                    have hnx : dd [] (al.take (i + 1)) = sent := by rw [Hstep.out, if_pos hhad]
                    have Hnx := Lib.hid (show OnD W2 al T na (.slice A7 tl c7) (na - (i + 1)) (.slice A8 m8 c8) (.int .i64 ((i + 1 : Nat) : Int)) Wq from ⟨i + 1, rfl, by omega, rfl, by rw [hnx, Hm8.out]; have := ho8q; rwa [Hm8.out] at this, ho7q, hbeq⟩)
                    clear hhad hnx ho8q ho7q hbeq hbq hte5 hWq d0 d1 d2 d3 d4
                    go_wp2_with fail
                    go_roundg (na - (i + 1))
                    case measure => have := Hgk4.out; omega
                    case rel => exact Hnx.out
                  | false =>
                    have hnx : dd [] (al.take (i + 1)) = sent ++ [⟨pk, pf, pn, pb, pq⟩] := by rw [Hstep.out, if_neg (by simp [hhad])]
                    have ho8r := ho8q
                    rw [Hm8.out] at ho8r
                    obtain ⟨v9, w9, hrun9, ho9, hg9⟩ := post_moreG ho8r hbeq.size ⟨pk, pf, pn, pb, pq⟩ #[.int .i64 pk, str pf, .int .i64 pn, str pb, .int .i64 pq] rfl (by omega)
                    have Hrun9 := Lib.hid hrun9
                    have hl9 : (sent ++ [(⟨pk, pf, pn, pb, pq⟩ : Pt)]).length = m8 + 1 := by rw [List.length_append, Hm8.out]; rfl
                    have Hnx := Lib.hid (show OnD W2 al T na (.slice A7 tl c7) (na - (i + 1)) v9 (.int .i64 ((i + 1 : Nat) : Int)) w9 from ⟨i + 1, rfl, by omega, rfl, by rw [hnx, hl9]; exact ho9, own_apart ho7q hg9 fun g h1 h2 => (apt_types ho7q ho8r (by decide)) g h1 h2, hbeq.grown hg9 hbeq.size fun g hg => (World.ownsRow.lt ho8r g hg).1⟩)
                    have hbaq : ba < Wq.heap.size := by have := hbq.size; omega
                    clear hhad hnx ho8q ho7q hbeq hbq hte5 hWq d0 d1 d2 d3 d4 ho8r hrun9 ho9 hg9 hl9
                    go_wp2_with (first | (at_builtin; refine bx_app rfl _ _ _ rfl _ _ (by rfl) (by rfl) Hrun9.out ?_; clear Hrun9) | fail)
                    go_roundg (na - (i + 1))
                    case measure => have := Hgk4.out; omega
                    case rel => exact Hnx.out
            · have hii2 : ¬ (i : Int) < (na : Int) := by omega
              have hte4 : al.take i = al := List.take_of_length_le (by rw [Hna.out]; omega)
              rw [hte4] at Hin8 ⊢
              generalize dd [] al = sent at *
              rw [← HTl.out] at Hin8 ⊢
              have hin7 : LIn mlL 3 wr wr.heap.size A7 tl c7 T := by
                obtain ⟨A, c, h1, h2⟩ := LIn.own mlL_len Ho7.out
                rw [Htl.out] at h1 h2
                injection h1 with e1 _ e3
                subst e1 e3
                exact h2
              have HP := Lib.hid (posted_any none 0 0 0 [] wr LIn.empty (Nat.zero_le _) (by omega) (Hg.out.below (HB2.out.trans (Hbe4.out.mono HB2.out.size))) (by simp))
              unfold PdPost at HP
              have Hin7 := Lib.hid hin7
              have Hb5 := Lib.hid (HB2.out.trans (Hbe4.out.mono HB2.out.size))
              have htt : ((tl : Int) != (tl : Int)) = false := by simp
              have htl60 : tl ≤ 60 := by have := HTl.out; omega
              clear hin7 hte4 Ho8 Ho7 Hin4 Hbe4 Hgk4 hi hin
              go_wp2_with fail
              refine HP.out.mono ?_
              rintro e wq ⟨Aq, cq, rfl, -, bq⟩
              have Hin7q := Lib.hid ((Hin7.out.below bq).wider bq.size)
              have Hin8q := Lib.hid ((Hin8.out.below bq).wider bq.size)
              have Hbq := Lib.hid (Hb5.out.trans (bq.mono Hb5.out.size))
              clear bq HP Hin7 Hin8 Hb5
              go_wp2_with fail
              go_loopg [20] tl (OnF wq tl)
              case atStart => exact ⟨0, 0, rfl, Nat.zero_le _, by omega, rfl⟩
              case round =>
                obtain ⟨k, q, rfl, hk, hgk6, rfl⟩ := hrel
                have Hgk6 := Lib.hid hgk6
                clear hgk6
                by_cases hkm : k < tl
                · have hki : (k : Int) < (tl : Int) := by omega
                  have hkT : k < T.length := by rw [Htl.out]; exact hkm
                  have hkS : k < sent.length := by rw [← HTl.out]; exact hkm
                  obtain ⟨ba, oa, hA7, hba, d0, d1, d2⟩ := ml_at Hin7q.out hkT
                  obtain ⟨bs, os, hA8, hbs, f0, f1, f2, f3, f4⟩ := pt_at Hin8q.out hkS
                  subst hA7 hA8
                  have hTk := HTg.out k hkS
                  rw [List.getElem?_eq_getElem hkT] at hTk
                  injection hTk with hTk
                  rw [hTk] at d0 d1 d2
                  simp only at d0 d1 d2
                  clear hTk
                  generalize sent[k] = p at *
                  obtain ⟨pk, pf, pn, pb, pq⟩ := p
                  simp only at d0 d1 d2 f0 f1 f2 f3 f4
                  have g1 : (!(pf == pf)) = false := by simp
                  have g2 : (!(pb == pb)) = false := by simp
                  go_wp2_with fail
                  go_quiet (fail)
                  go_wp2_with fail
                  go_roundg (tl - (k + 1))
                  case measure => have := Hgk6.out; omega
                  case rel => exact ⟨k + 1, _, by go_num, by omega, rfl, rfl⟩
                · have hki : ¬ (k : Int) < (tl : Int) := by omega
                  go_wp2_with fail
                  go_ret
                  exact ⟨rfl, below_drewN Hbq.out _⟩
namespace boxOnce
open Go.ChangeShapes Go.WideShapes Go.ChangeAt Go.RowKit
theorem own : ownKnob Try.prog.godebug = none := by kernel_rfl
theorem laidOut : laidOutB Try.prog = true := by kernel_rfl
set_option linter.unusedVariables false
set_option maxRecDepth 100000 in
theorem lifted (os : Os) (started : os.Started) (H : Type) (enc : TypeId × Value → H) :
    ReturnsInHanded {} Try.checked os 5 .any (Rows.boxOnceSpec.pre6 enc Try.prog Try.f5 Rows.boxOnceRow.domain false) (Rows.boxOnceSpec.post enc Try.prog Try.f5 false true false false) := by
  refine returnsInHanded_of_change_shaped (C := Try.checked) own started (by kernel_rfl) Try.func5
    (ChangeSpec.witness6 (enc := enc) (C := Try.checked) false ⟨#[], #[.slice none 0 0], []⟩ 8 (by kernel_rfl) (by kernel_rfl) (by kernel_rfl) (by kernel_rfl)) ?_
  intro W base args ds gs before hval0 hW hcnd _ hsh0 _
  have hsh : W.ShapedOpen Try.prog := hsh0
  have hval : ∀ (j : Nat) t v, Try.f5.params[j]? = some t → args[j]? = some v → Value.okWide Try.prog W .any base t v := hval0
  have hW' := hW
  obtain ⟨p, q, hA0, hV, rfl, hfz, hnd⟩ := hW
  have hA : DataW.TrodAll enc Try.prog W 0 (fun _ => true) true Try.f5.params.toList args.toList ds p := hA0
  rw [Try.params5] at hA hval
  obtain ⟨v0, vs0, d0, ds0, p0, q0, hargs, rfl, rfl, h0, rr0⟩ := trodAll_cons hA
  obtain ⟨rfl, rfl, rfl⟩ := trodAll_nil rr0
  obtain rfl : args = #[v0] := by cases args; simp_all
  obtain ⟨rfl, rfl⟩ := trodVars_none hV
  have k0 := h0
  have lt0 : ∀ x ∈ p0, x.block < W.heap.size := by obtain ⟨m, hm⟩ := k0; exact DataW.trod_lt m _ _ _ hm
  obtain ⟨A0, n0, c0, rfl, hx0⟩ := open_intsl Try.underlying40 Try.underlying3 (by kernel_rfl) (hval 0 40 v0 rfl rfl) h0
  clear hA0 hval0
  refine (walkBoxOnce A0 n0 c0 W hx0 hsh).mono fun e W' ⟨he, bel⟩ => ?_
  subst he
  exact ⟨_, rfl, _, _, _, [], _, [], hW', trodAll_mk1 (shut_bool Try.underlying4 _), (trodAll_cons_mk (Below.trod laidOut (by kernel_rfl) (of_decide_eq_true (by kernel_rfl)) k0 bel lt0) trodAll_mk0), rfl, bel.frame _, fun h => by cases h⟩

theorem over : Rows.boxOnceRow.holds Try.pinned (OpenSpec.ofChange Rows.boxOnceSpec) :=
  OpenClaim.holds_of_wide 5 Try.f5 rfl rfl rfl rfl rfl rfl rfl ⟨rfl, rfl, rfl, rfl, rfl⟩ rfl rfl rfl rfl rfl (by kernel_rfl) Try.func5 (by kernel_rfl)
    (of_decide_eq_true (by kernel_rfl)) (by unfold Func.isWrapper; first | (rw [if_pos (by decide +kernel)]; kernel_rfl) | (rw [if_neg (by decide +kernel)]; exact ⟨rfl, rfl⟩))
    (fun os started H enc _ => lifted os started H enc)

theorem proved : Rows.BoxOnceSaid := over
#print axioms proved
end boxOnce
end Go.Proofs.Ytgckihglgnbaoaa
