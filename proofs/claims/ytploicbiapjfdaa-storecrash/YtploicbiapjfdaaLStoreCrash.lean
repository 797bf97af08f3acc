/- Proved here: a Crash is a Commit or nothing: behind none of its bytes the file is as before, behind all of them as if it had been answered (statement StoreCrash). No condition. -/
import Derived.Test.YtploicbiapjfdaaBunSF
import Derived.Test.YtploicbiapjfdaaSameKeep
import Derived.ChangeSame
namespace Go.Proofs.Ytploicbiapjfdaa
set_option linter.unusedVariables false
set_option linter.unusedSimpArgs false
open Go.RowKit
theorem wts_pos {cs : List Rw} (h : cs ≠ []) : 0 < wts cs := by
  cases cs with
  | nil => exact absurd rfl h
  | cons r l => rw [wts_cons]; unfold wt; omega
theorem crash_one {s : List Rw × List UInt8} {cs : List Rw} {n : Int} (hn : 0 ≤ n) : (crashN s cs n).2.2 = s.2 ∨ (crashN s cs n).2.2 = (commitN s cs).2.2 := by
  unfold crashN commitN
  rw [if_neg (by omega)]
  split
  · exact .inl rfl
  · split
    · exact .inl rfl
    · split
      · exact .inl rfl
      · exact .inr rfl
theorem crash_full {s : List Rw × List UInt8} {cs : List Rw} : (crashN s cs 1073741824).2.2 = (commitN s cs).2.2 := by
  have := pkF_small cs
  unfold crashN commitN
  rw [if_neg (by omega)]
  split
  · rfl
  · split
    · rfl
    · rw [if_neg (by omega)]
theorem crash_none {s : List Rw × List UInt8} (hs : Fit s.1) {cs : List Rw} : (crashN s cs 0).2.2 = s.2 := by
  unfold crashN
  rw [if_neg (by omega)]
  split
  · rfl
  · rename_i hp
    split
    · rfl
    · have h1 := plan_ok hs (by simpa using hp)
      have h2 := wts_pos h1.1.1
      rw [if_pos (by rw [pkF_ok h1.1, pack_wts]; omega)]
/-- One act with rows more behind a copy of acts: the run. -/
theorem acts_row {W W1 w2 : World} {v1 : Value} {acs : List Ac} {l m : Nat} (hl : acs.length = l) (has1 : AsS W1 W.heap.size (fun b => b < W.heap.size) v1 acs) (hW : W.heap.size ≤ W1.heap.size) (hb : Below W1.heap.size W1 w2) {vr : Value} {rs : List Rw} (hm : rs.length = m) (hr : w2.ownsRow W1.heap.size 50 2 vr m (pcR rs)) (sh : Short rs) (hrl : m ≤ 1000) (kind n : Int) (hn : -9223372036854775808 ≤ n ∧ n ≤ 9223372036854775807) (hl1 : l ≤ 1000) :
    ∃ Ar cr A2 c2 W2, vr = .slice Ar m cr ∧ (Builtin.append_ #[22, 22] 22 #[v1, .slice (some ⟨w2.heap.size, 0, none⟩) 1 1]).run Try.prog (w2.alloc (.cells #[.int .i64 kind, .slice Ar m cr, .string ⟨#[]⟩, .int .i64 n] 44)) = .ok (.slice A2 (l + 1) c2) W2 ∧
      AsIn W2 W2.heap.size A2 (l + 1) c2 (acs ++ [⟨kind, rs, [], n⟩]) ∧ Below W.heap.size W1 W2 := by
  obtain ⟨Ar, cr, rfl, hr2⟩ := RInS.row hr
  have has2 := has1.below hb
  have hlt : ∀ g, v1.ownBlock = some g → W.heap.size ≤ g ∧ g < W1.heap.size := fun g e => by obtain ⟨pc, ho, _⟩ := has1; exact ⟨(ho.lt g e).1, (ho.lt g e).2⟩
  have has3 : AsS w2 W.heap.size (fun b => some b ≠ v1.ownBlock) v1 acs := has2.mono fun b _ hb e => by have := (hlt b e.symm).1; omega
  have ha : AIn w2 (fun b => some b ≠ v1.ownBlock) ⟨kind, rs, [], n⟩ [.int .i64 kind, .slice Ar m cr, .string ⟨#[]⟩, .int .i64 n] := by
    subst hm
    exact ⟨Ar, cr, rfl, hr2.mono fun b _ hb e => by have := (hlt b e.symm).2; omega, sh, by show rs.length ≤ _; omega, by simp, hn⟩
  have hws := hb.size
  obtain ⟨v2, W2, hrun2, hw2, hb2, _, _⟩ := acts_put has3 (fun b h => h) _ _ ha _ rfl (by omega) (by omega)
  obtain ⟨A2, c2, rfl, hin2⟩ := hw2.form
  have hl2 : (acs ++ [(⟨kind, rs, [], n⟩ : Ac)]).length = l + 1 := by simp; omega
  rw [hl2] at hin2 hrun2
  exact ⟨Ar, cr, A2, c2, W2, rfl, hrun2, hin2, hb2 _ _ (hb.mono hW) (Nat.le_refl _) (by omega)⟩
set_option maxHeartbeats 8000000 in
set_option maxRecDepth 100000 in
theorem walkStoreCrash (A0 : Option Addr) (n0 c0 : Nat) (A1 : Option Addr) (n1 c1 : Nat) (x2 : Int) (w : World) (hx0 : WsIn w w.heap.size A0 n0) (hx1 : IntsAt w w.heap.size A1 n1 c1) (hx2 : -9223372036854775808 ≤ x2 ∧ x2 ≤ 9223372036854775807) :
    Calls Try.prog 10 #[.slice A0 n0 c0, .slice A1 n1 c1, .int .i64 x2] w fun e w' => e = .returned (.bool true) ∧ Below w.heap.size w w' := by
  have Hx1 := Lib.hid hx1
  have H1 := Lib.hid (acts_any A0 n0 c0 30 w hx0 (by decide))
  clear hx0 hx1
  go_enter Try.func10, Try.ntmps10
  go_wp2_with fail
  refine H1.out.mono ?_
  rintro e w1 ⟨v1, acs, rfl, hl1, -, has1, hb1⟩
  obtain ⟨B1, d1, rfl, hin1⟩ := has1.form
  obtain ⟨l, hn1⟩ : ∃ l, acs.length = l := ⟨_, rfl⟩
  have hl30 : l ≤ 30 := by omega
  rw [hn1] at hin1 ⊢
  have HinA := Lib.hid hin1
  have Hl := Lib.hid hn1
  have HBa := Lib.hid (Below.refl w1.heap.size w1)
  have HB0 := Lib.hid hb1
  have HC := Lib.hid (changes_any A1 n1 c1 w.heap.size 3 w1 (Hx1.out.below hb1) hb1.size (by decide))
  clear H1 hl1 has1 hb1 hin1 hn1
  go_wp2_with fail
  refine HC.out.mono ?_
  rintro e w2 ⟨v2, cs, rfl, ho2, hcl, hdr, hb2⟩
  have hcl3 : cs.length ≤ 3 := by omega
  have Hsh : Hid (Short (cs ++ [tv])) := Lib.hid fun r hr => by
    rcases List.mem_append.1 hr with h | h
    · exact drawn_short hdr r h
    · simp at h; subst h; decide
  obtain ⟨v3, w3, hrun3, ho3, hg3, -⟩ := run_app_row4 w2 w1.heap.size cs.length v2 cs tv ho2 (by omega) hb2.size
  have Hrun3 := Lib.hid (show (Builtin.append_ #[29, 29] 29 #[v2, .slice (some ⟨w2.heap.size, 0, none⟩) 1 1]).run Try.prog (w2.alloc (.cells #[.string ⟨#[116]⟩, .string ⟨#[118]⟩] 50)) = .ok v3 w3 from hrun3)
  have hb3 : Below w1.heap.size w1 w3 := below_own (hb2.alloc hb2.size _) hg3 (ho2.alloc _) (Nat.le_refl _) (by have := hb2.size; simp; omega)
  have hrsl : (cs ++ [tv]).length = cs.length + 1 := by simp
  have hm4 : cs.length + 1 ≤ 4 := by omega
  generalize cs.length + 1 = m at *
  generalize cs ++ [tv] = rs at *
  obtain ⟨A3, c3, rfl, hr3⟩ := RIn.own ho3
  have Hm := Lib.hid hrsl
  have HinR := Lib.hid hr3
  have HBr := Lib.hid (Below.refl w3.heap.size w3)
  have HBa := Lib.hid (HBa.out.trans (hb3.mono HBa.out.size))
  have HB0 := Lib.hid (HB0.out.trans (hb3.mono HB0.out.size))
  clear hcl3 ho2 hcl hdr hb2 hrun3 ho3 hg3 hb3 hrsl hr3 HC
  obtain ⟨vb, Ub, hrun1, has1, hb1⟩ := acts_copy (HinA.out.below HBa.out) HBa.out.size (by omega)
  have Hrun1 := Lib.hid hrun1
  have HC := Lib.hid (copR_any A3 m c3 w3.heap.size rs Ub ((HinR.out.below HBr.out).below (hb1.mono HBr.out.size)) (Nat.le_trans HBr.out.size hb1.size) (by omega))
  have Has1 := Lib.hid has1
  have Hb1 := Lib.hid hb1
  clear hrun1 has1 hb1
  go_wp2_with (first | (at_builtin; refine rw_app rfl _ _ _ rfl _ _ (by rfl) (by rfl) Hrun3.out ?_; clear Hrun3) | (at_builtin; refine rw_app rfl _ _ _ rfl _ _ (by rfl) (by rfl) Hrun1.out ?_; clear Hrun1) | fail)
  refine HC.out.mono ?_
  rintro e Vb ⟨vr, rfl, hor, hbr⟩
  obtain ⟨Ar, cr, Ab, cb, Wb, rfl, hrun2, hin2, hb2⟩ := acts_row Hl.out Has1.out Hb1.out.size hbr Hm.out hor Hsh.out (by omega) 1 0 (by omega) (by omega)
  have Hrun2 := Lib.hid hrun2
  have HinB := Lib.hid hin2
  have hst := Hb1.out.trans hb2
  have HB0 := Lib.hid (HB0.out.trans (hst.mono HB0.out.size))
  have HBa := Lib.hid (HBa.out.trans (hst.mono HBa.out.size))
  have HBr := Lib.hid (HBr.out.trans (hst.mono HBr.out.size))
  have HBb := Lib.hid (Below.refl Wb.heap.size Wb)
  clear hrun2 hin2 hb2 hst hor hbr Has1 Hb1 HC
  obtain ⟨vc, Uc, hrun1, has1, hb1⟩ := acts_copy (HinA.out.below HBa.out) HBa.out.size (by omega)
  have Hrun1 := Lib.hid hrun1
  have HC := Lib.hid (copR_any A3 m c3 w3.heap.size rs Uc ((HinR.out.below HBr.out).below (hb1.mono HBr.out.size)) (Nat.le_trans HBr.out.size hb1.size) (by omega))
  have Has1 := Lib.hid has1
  have Hb1 := Lib.hid hb1
  clear hrun1 has1 hb1
  go_wp2_with (first | (at_builtin; refine rw_app rfl _ _ _ rfl _ _ (by rfl) (by rfl) Hrun2.out ?_; clear Hrun2) | (at_builtin; refine rw_app rfl _ _ _ rfl _ _ (by rfl) (by rfl) Hrun1.out ?_; clear Hrun1) | fail)
  refine HC.out.mono ?_
  rintro e Vc ⟨vr, rfl, hor, hbr⟩
  have hq0 := Int.emod_nonneg x2 (show (100 : Int) ≠ 0 by decide)
  have hq1 := Int.emod_lt_of_pos x2 (show (0 : Int) < 100 by decide)
  go_wp2_with fail
  refine (picked_any x2 100 _ (by decide) (by decide)).mono ?_
  rintro e wq ⟨rfl, rfl⟩
  generalize x2 % 100 = q at *
  obtain ⟨Ar, cr, Ac, cc, Wc, rfl, hrun2, hin2, hb2⟩ := acts_row Hl.out Has1.out Hb1.out.size hbr Hm.out hor Hsh.out (by omega) 5 q (by omega) (by omega)
  have Hrun2 := Lib.hid hrun2
  have HinC := Lib.hid hin2
  have hst := Hb1.out.trans hb2
  have HB0 := Lib.hid (HB0.out.trans (hst.mono HB0.out.size))
  have HBa := Lib.hid (HBa.out.trans (hst.mono HBa.out.size))
  have HBr := Lib.hid (HBr.out.trans (hst.mono HBr.out.size))
  have HBb := Lib.hid (HBb.out.trans (hst.mono HBb.out.size))
  have HBc := Lib.hid (Below.refl Wc.heap.size Wc)
  clear hrun2 hin2 hb2 hst hor hbr Has1 Hb1 HC
  obtain ⟨vd, Ud, hrun1, has1, hb1⟩ := acts_copy (HinA.out.below HBa.out) HBa.out.size (by omega)
  have Hrun1 := Lib.hid hrun1
  have HC := Lib.hid (copR_any A3 m c3 w3.heap.size rs Ud ((HinR.out.below HBr.out).below (hb1.mono HBr.out.size)) (Nat.le_trans HBr.out.size hb1.size) (by omega))
  have Has1 := Lib.hid has1
  have Hb1 := Lib.hid hb1
  clear hrun1 has1 hb1
  go_wp2_with (first | (at_builtin; refine rw_app rfl _ _ _ rfl _ _ (by rfl) (by rfl) Hrun2.out ?_; clear Hrun2) | (at_builtin; refine rw_app rfl _ _ _ rfl _ _ (by rfl) (by rfl) Hrun1.out ?_; clear Hrun1) | fail)
  refine HC.out.mono ?_
  rintro e Vd ⟨vr, rfl, hor, hbr⟩
  obtain ⟨Ar, cr, Ad, cd, Wd, rfl, hrun2, hin2, hb2⟩ := acts_row Hl.out Has1.out Hb1.out.size hbr Hm.out hor Hsh.out (by omega) 5 1073741824 (by omega) (by omega)
  have Hrun2 := Lib.hid hrun2
  have HinD := Lib.hid hin2
  have hst := Hb1.out.trans hb2
  have HB0 := Lib.hid (HB0.out.trans (hst.mono HB0.out.size))
  have HBa := Lib.hid (HBa.out.trans (hst.mono HBa.out.size))
  have HBr := Lib.hid (HBr.out.trans (hst.mono HBr.out.size))
  have HBb := Lib.hid (HBb.out.trans (hst.mono HBb.out.size))
  have HBc := Lib.hid (HBc.out.trans (hst.mono HBc.out.size))
  have HBd := Lib.hid (Below.refl Wd.heap.size Wd)
  clear hrun2 hin2 hb2 hst hor hbr Has1 Hb1 HC
  obtain ⟨ve, Ue, hrun1, has1, hb1⟩ := acts_copy (HinA.out.below HBa.out) HBa.out.size (by omega)
  have Hrun1 := Lib.hid hrun1
  have HC := Lib.hid (copR_any A3 m c3 w3.heap.size rs Ue ((HinR.out.below HBr.out).below (hb1.mono HBr.out.size)) (Nat.le_trans HBr.out.size hb1.size) (by omega))
  have Has1 := Lib.hid has1
  have Hb1 := Lib.hid hb1
  clear hrun1 has1 hb1
  go_wp2_with (first | (at_builtin; refine rw_app rfl _ _ _ rfl _ _ (by rfl) (by rfl) Hrun2.out ?_; clear Hrun2) | (at_builtin; refine rw_app rfl _ _ _ rfl _ _ (by rfl) (by rfl) Hrun1.out ?_; clear Hrun1) | fail)
  refine HC.out.mono ?_
  rintro e Ve ⟨vr, rfl, hor, hbr⟩
  obtain ⟨Ar, cr, Ae, ce, We, rfl, hrun2, hin2, hb2⟩ := acts_row Hl.out Has1.out Hb1.out.size hbr Hm.out hor Hsh.out (by omega) 5 0 (by omega) (by omega)
  have Hrun2 := Lib.hid hrun2
  have HinE := Lib.hid hin2
  have hst := Hb1.out.trans hb2
  have HB0 := Lib.hid (HB0.out.trans (hst.mono HB0.out.size))
  have HBa := Lib.hid (HBa.out.trans (hst.mono HBa.out.size))
  have HBr := Lib.hid (HBr.out.trans (hst.mono HBr.out.size))
  have HBb := Lib.hid (HBb.out.trans (hst.mono HBb.out.size))
  have HBc := Lib.hid (HBc.out.trans (hst.mono HBc.out.size))
  have HBd := Lib.hid (HBd.out.trans (hst.mono HBd.out.size))
  have HBe := Lib.hid (Below.refl We.heap.size We)
  clear hrun2 hin2 hb2 hst hor hbr Has1 Hb1 HC
  have HS := Lib.hid (stored_any B1 l d1 w1.heap.size acs We (HinA.out.below HBa.out) HBa.out.size (by omega))
  go_wp2_with (first | (at_builtin; refine rw_app rfl _ _ _ rfl _ _ (by rfl) (by rfl) Hrun2.out ?_; clear Hrun2) | fail)
  have hfb : (actsR st0 (acs ++ [⟨1, rs, [], 0⟩])).2.2 = (commitN (actsR st0 acs).2 rs).2.2 := by rw [actsR_snoc, act_commit rfl]
  have hfc : (actsR st0 (acs ++ [⟨5, rs, [], q⟩])).2.2 = (crashN (actsR st0 acs).2 rs q).2.2 := by rw [actsR_snoc, act_crash rfl]
  have hfd : (actsR st0 (acs ++ [⟨5, rs, [], 1073741824⟩])).2.2 = (commitN (actsR st0 acs).2 rs).2.2 := by rw [actsR_snoc, act_crash rfl]; exact crash_full
  have hfe : (actsR st0 (acs ++ [⟨5, rs, [], 0⟩])).2.2 = (actsR st0 acs).2.2 := by rw [actsR_snoc, act_crash rfl]; exact crash_none (Kp.acts acs kp0).fit
  have hcut := crash_one (s := (actsR st0 acs).2) (cs := rs) hq0
  have hleF : (actsR st0 acs).2.2.length ≤ 1200 := fil_len acs
  have hleB : (actsR st0 (acs ++ [⟨1, rs, [], 0⟩])).2.2.length ≤ 1200 := fil_len _
  have hleC : (actsR st0 (acs ++ [⟨5, rs, [], q⟩])).2.2.length ≤ 1200 := fil_len _
  have hle2 : ∀ a : Go.Proofs.Ytploicbiapjfdaa.Ac, (acs ++ [a]).length = l + 1 := fun a => by have := Hl.out; simp; omega
  have HSb := Lib.hid (show ∀ W, Below Wb.heap.size Wb W → _ from fun W hb => stored_any Ab (l + 1) cb Wb.heap.size _ W (HinB.out.below hb) hb.size (by omega))
  have HSc := Lib.hid (show ∀ W, Below Wc.heap.size Wc W → _ from fun W hb => stored_any Ac (l + 1) cc Wc.heap.size _ W (HinC.out.below hb) hb.size (by omega))
  have HSd := Lib.hid (show ∀ W, Below Wd.heap.size Wd W → _ from fun W hb => stored_any Ad (l + 1) cd Wd.heap.size _ W (HinD.out.below hb) hb.size (by omega))
  have HSe := Lib.hid (show ∀ W, Below We.heap.size We W → _ from fun W hb => stored_any Ae (l + 1) ce We.heap.size _ W (HinE.out.below hb) hb.size (by omega))
  unfold StdPost at HS HSb HSc HSd HSe
  simp only [hle2] at HSb HSc HSd HSe
  simp only [Hl.out] at HS
  rw [hfb] at HSb hleB
  rw [hfc] at HSc hleC
  rw [hfd] at HSd
  rw [hfe] at HSe
  clear hfb hfc hfd hfe hle2
  generalize (crashN (actsR st0 acs).2 rs q).2.2 = FC at *
  generalize (commitN (actsR st0 acs).2 rs).2.2 = FB at *
  generalize (actsR st0 acs).2.2 = FA at *
  have Hcut := Lib.hid hcut
  clear hcut HinA HinB HinC HinD HinE HinR HBa HBr
  refine HS.out.mono ?_
  rintro e Xa ⟨Aqa, cqa, Afa, cfa, rfl, -, hf, hst⟩
  have HB0 := Lib.hid (HB0.out.trans (hst.mono HB0.out.size))
  have HBb := Lib.hid (HBb.out.trans (hst.mono HBb.out.size))
  have HBc := Lib.hid (HBc.out.trans (hst.mono HBc.out.size))
  have HBd := Lib.hid (HBd.out.trans (hst.mono HBd.out.size))
  have HBe := Lib.hid (HBe.out.trans (hst.mono HBe.out.size))
  have Hfa := Lib.hid hf
  clear hf hst
  go_wp2_with fail
  refine (HSb.out _ HBb.out).mono ?_
  rintro e Xb ⟨Aqb, cqb, Afb, cfb, rfl, -, hf, hst⟩
  have HB0 := Lib.hid (HB0.out.trans (hst.mono HB0.out.size))
  have HBb := Lib.hid (HBb.out.trans (hst.mono HBb.out.size))
  have HBc := Lib.hid (HBc.out.trans (hst.mono HBc.out.size))
  have HBd := Lib.hid (HBd.out.trans (hst.mono HBd.out.size))
  have HBe := Lib.hid (HBe.out.trans (hst.mono HBe.out.size))
  have Hfa := Lib.hid (Hfa.out.below hst)
  have Hfb := Lib.hid hf
  clear hf hst
  go_wp2_with fail
  refine (HSc.out _ HBc.out).mono ?_
  rintro e Xc ⟨Aqc, cqc, Afc, cfc, rfl, -, hf, hst⟩
  have HB0 := Lib.hid (HB0.out.trans (hst.mono HB0.out.size))
  have HBb := Lib.hid (HBb.out.trans (hst.mono HBb.out.size))
  have HBc := Lib.hid (HBc.out.trans (hst.mono HBc.out.size))
  have HBd := Lib.hid (HBd.out.trans (hst.mono HBd.out.size))
  have HBe := Lib.hid (HBe.out.trans (hst.mono HBe.out.size))
  have Hfa := Lib.hid (Hfa.out.below hst)
  have Hfb := Lib.hid (Hfb.out.below hst)
  have Hfc := Lib.hid hf
  clear hf hst
  go_wp2_with fail
  refine (HSd.out _ HBd.out).mono ?_
  rintro e Xd ⟨Aqd, cqd, Afd, cfd, rfl, -, hf, hst⟩
  have HB0 := Lib.hid (HB0.out.trans (hst.mono HB0.out.size))
  have HBb := Lib.hid (HBb.out.trans (hst.mono HBb.out.size))
  have HBc := Lib.hid (HBc.out.trans (hst.mono HBc.out.size))
  have HBd := Lib.hid (HBd.out.trans (hst.mono HBd.out.size))
  have HBe := Lib.hid (HBe.out.trans (hst.mono HBe.out.size))
  have Hfa := Lib.hid (Hfa.out.below hst)
  have Hfb := Lib.hid (Hfb.out.below hst)
  have Hfc := Lib.hid (Hfc.out.below hst)
  have Hfd := Lib.hid hf
  clear hf hst
  go_wp2_with fail
  refine (HSe.out _ HBe.out).mono ?_
  rintro e Xe ⟨Aqe, cqe, Afe, cfe, rfl, -, hf, hst⟩
  have HB0 := Lib.hid (HB0.out.trans (hst.mono HB0.out.size))
  have HBb := Lib.hid (HBb.out.trans (hst.mono HBb.out.size))
  have HBc := Lib.hid (HBc.out.trans (hst.mono HBc.out.size))
  have HBd := Lib.hid (HBd.out.trans (hst.mono HBd.out.size))
  have HBe := Lib.hid (HBe.out.trans (hst.mono HBe.out.size))
  have Hfa := Lib.hid (Hfa.out.below hst)
  have Hfb := Lib.hid (Hfb.out.below hst)
  have Hfc := Lib.hid (Hfc.out.below hst)
  have Hfd := Lib.hid (Hfd.out.below hst)
  have Hfe := Lib.hid hf
  clear hf hst
  have HH : Hid (∀ {A : Option Addr} {c B : Nat} {F : List UInt8} (q : Nat), BIn Xe (fun b => b < B) A F.length c F → Holds (Xe.drewN q) (Xe.drewN q).heap.size 1 A F.length (F.map bv)) := Lib.hid fun q h => (h.mono (S' := fun b => b < Xe.heap.size) fun b hb _ => hb).2.2.2
  have K2 := Lib.hid (show ∀ q, _ from fun q => samekeep_any Afc Afb FC.length FB.length cfc cfb FC FB (Xe.drewN q) (HH.out q Hfc.out) (HH.out q Hfb.out) (by omega) (by omega))
  have K3 := Lib.hid (show ∀ q, _ from fun q => samekeep_any Afd Afb FB.length FB.length cfd cfb FB FB (Xe.drewN q) (HH.out q Hfd.out) (HH.out q Hfb.out) (by omega) (by omega))
  have K4 := Lib.hid (show ∀ q, _ from fun q => samekeep_any Afe Afa FA.length FA.length cfe cfa FA FA (Xe.drewN q) (HH.out q Hfe.out) (HH.out q Hfa.out) (by omega) (by omega))
  rw [beq_self_eq_true] at K3 K4
  have K10 := Lib.hid (samekeep_any Afc Afa FC.length FA.length cfc cfa FC FA Xe ((Hfc.out.mono (S' := fun b => b < Xe.heap.size) fun b hb _ => hb).2.2.2) ((Hfa.out.mono (S' := fun b => b < Xe.heap.size) fun b hb _ => hb).2.2.2) (by omega) (by omega))
  clear HH Hfa Hfb Hfc Hfd Hfe
  by_cases hca : FC = FA
  · have hb : (FC == FA) = true := by rw [hca]; exact beq_self_eq_true _
    rw [hb] at K10
    clear hca hb Hcut
    go_wp2_with fail
    refine K10.out.mono ?_
    rintro e w12 ⟨rfl, q1, rfl⟩
    go_wp2_with fail
    refine (K3.out q1).mono ?_
    rintro e w13 ⟨rfl, q2, rfl⟩
    go_wp2_with fail
    refine (K4.out (q1 + q2)).mono ?_
    rintro e w14 ⟨rfl, q3, rfl⟩
    go_wp2_with fail
    go_ret
    exact ⟨by simp, below_drewN HB0.out _⟩
  · have hb : (FC == FA) = false := beq_eq_false_iff_ne.2 hca
    have hb2 : (FC == FB) = true := by rw [Hcut.out.resolve_left hca]; exact beq_self_eq_true _
    rw [hb] at K10
    rw [hb2] at K2
    clear hca hb hb2 Hcut
    go_wp2_with fail
    refine K10.out.mono ?_
    rintro e w12 ⟨rfl, q1, rfl⟩
    go_wp2_with fail
    refine (K2.out q1).mono ?_
    rintro e w13 ⟨rfl, q2, rfl⟩
    go_wp2_with fail
    refine (K3.out (q1 + q2)).mono ?_
    rintro e w14 ⟨rfl, q3, rfl⟩
    go_wp2_with fail
    refine (K4.out (q1 + q2 + q3)).mono ?_
    rintro e w15 ⟨rfl, q4, rfl⟩
    go_wp2_with fail
    go_ret
    exact ⟨by simp, below_drewN HB0.out _⟩
namespace storeCrash
open Go.ChangeShapes Go.WideShapes Go.ChangeAt Go.RowKit
theorem own : ownKnob Try.prog.godebug = none := by kernel_rfl
theorem laidOut : laidOutB Try.prog = true := by kernel_rfl
set_option linter.unusedVariables false
set_option maxRecDepth 100000 in
theorem lifted (os : Os) (started : os.Started) (H : Type) (enc : TypeId × Value → H) :
    ReturnsInHanded {} Try.checked os 10 .any (Rows.storeCrashSpec.pre6 enc Try.prog Try.f10 Rows.storeCrashRow.domain false) (Rows.storeCrashSpec.post enc Try.prog Try.f10 false true false false) := by
  refine returnsInHanded_of_change (C := Try.checked) own started (by kernel_rfl) Try.func10
    (ChangeSpec.witness6 (enc := enc) (C := Try.checked) false ⟨#[], #[.slice none 0 0, .slice none 0 0, .int .i64 0], []⟩ 8 (by kernel_rfl) (by kernel_rfl) (by kernel_rfl) (by kernel_rfl)) ?_
  intro W base args ds gs before hval0 hW hcnd _
  have hval : ∀ (j : Nat) t v, Try.f10.params[j]? = some t → args[j]? = some v → Value.okWide Try.prog W .any base t v := hval0
  have hW' := hW
  obtain ⟨p, q, hA0, hV, rfl, hfz, hnd⟩ := hW
  have hA : DataW.TrodAll enc Try.prog W 0 (fun _ => true) true Try.f10.params.toList args.toList ds p := hA0
  rw [Try.params10] at hA hval
  obtain ⟨v0, vs0, d0, ds0, p0, q0, hargs, rfl, rfl, h0, rr0⟩ := trodAll_cons hA
  obtain ⟨v1, vs1, d1, ds1, p1, q1, rfl, rfl, rfl, h1, rr1⟩ := trodAll_cons rr0
  obtain ⟨v2, vs2, d2, ds2, p2, q2, rfl, rfl, rfl, h2, rr2⟩ := trodAll_cons rr1
  obtain ⟨rfl, rfl, rfl⟩ := trodAll_nil rr2
  obtain rfl : args = #[v0, v1, v2] := by cases args; simp_all
  obtain ⟨rfl, rfl⟩ := trodVars_none hV
  have k0 := h0
  have lt0 : ∀ x ∈ p0, x.block < W.heap.size := by obtain ⟨m, hm⟩ := k0; exact DataW.trod_lt m _ _ _ hm
  obtain ⟨A0, n0, c0, rfl, hx0⟩ := open_wishes (hval 0 37 v0 rfl rfl) h0
  have k1 := h1
  have lt1 : ∀ x ∈ p1, x.block < W.heap.size := by obtain ⟨m, hm⟩ := k1; exact DataW.trod_lt m _ _ _ hm
  obtain ⟨A1, n1, c1, rfl, hx1⟩ := open_intsl Try.underlying52 Try.underlying3 (by kernel_rfl) (hval 1 52 v1 rfl rfl) h1
  have k2 := h2
  have lt2 : ∀ x ∈ p2, x.block < W.heap.size := by obtain ⟨m, hm⟩ := k2; exact DataW.trod_lt m _ _ _ hm
  obtain ⟨x2, rfl, hx2⟩ := open_i64 Try.underlying3 (hval 2 3 v2 rfl rfl) h2
  clear hA0 hval0
  refine (walkStoreCrash A0 n0 c0 A1 n1 c1 x2 W hx0 hx1 hx2).mono fun e W' ⟨he, bel⟩ => ?_
  subst he
  exact ⟨_, rfl, _, _, _, [], _, [], hW', trodAll_mk1 (shut_bool Try.underlying4 _), (trodAll_cons_mk (Below.trod laidOut (by kernel_rfl) (of_decide_eq_true (by kernel_rfl)) k0 bel lt0) (trodAll_cons_mk (Below.trod laidOut (by kernel_rfl) (of_decide_eq_true (by kernel_rfl)) k1 bel lt1) (trodAll_cons_mk (Below.trod laidOut (by kernel_rfl) (of_decide_eq_true (by kernel_rfl)) k2 bel lt2) trodAll_mk0))), rfl, bel.frame _, fun h => by cases h⟩

theorem over : Rows.storeCrashRow.holds Try.pinned (OpenSpec.ofChange Rows.storeCrashSpec) :=
  OpenClaim.holds_of_wide 10 Try.f10 rfl rfl rfl rfl rfl rfl rfl ⟨rfl, rfl, rfl, rfl, rfl⟩ rfl rfl rfl rfl rfl (by kernel_rfl) Try.func10 (by kernel_rfl)
    (of_decide_eq_true (by kernel_rfl)) (by unfold Func.isWrapper; first | (rw [if_pos (by decide +kernel)]; kernel_rfl) | (rw [if_neg (by decide +kernel)]; exact ⟨rfl, rfl⟩))
    (fun os started H enc _ => lifted os started H enc)

theorem proved : Rows.StoreCrashSaid := over
#print axioms proved
end storeCrash
end Go.Proofs.Ytploicbiapjfdaa
