/- The message box: posted, sameGot. -/
import Derived.Test.YtmlgaedhfannmaaBxPo
namespace Go.Proofs.Ytmlgaedhfannmaa
set_option linter.unusedVariables false
set_option linter.unusedSimpArgs false
open Go.RowKit
/-- A copy of a list of posts: its run. -/
theorem posts_copy {W : World} {B n c : Nat} {A : Option Addr} {ps : List Pt} (h : LIn ptL 5 W B A n c ps) (hB : B ≤ W.heap.size) (hn : n ≤ 1048576) :
    ∃ v' wf, (Builtin.append_ #[70, 70] 70 #[.slice none 0 0, .slice A n c]).run Try.prog W = .ok v' wf ∧ wf.ownsRow W.heap.size 76 5 v' n (pcK ptL ps) ∧ Below W.heap.size W wf := by
  obtain ⟨i0, hi0, hz0, hzs, hzb⟩ := info_parts info_post
  obtain ⟨h1, h2, h3, h4⟩ := h
  obtain ⟨v', wf, k1, k2, k3, k4⟩ := run_app_all (P := Try.prog) W 70 70 W.heap.size 76 i0 _ 5 56 Try.underlying70 hi0 hz0 hzs hzb rfl (by decide) (.slice none 0 0) 0 [] (World.ownsRow_nil _ _ _ _) B A n c (pcK ptL ps) h3 h4 (pcK_one ptL_one ps) (by omega) (by decide) (Nat.le_refl _)
  exact ⟨v', wf, k1, by simpa using k2, below_own (Below.refl W.heap.size W) k3 (World.ownsRow_nil W W.heap.size 76 5) (Nat.le_refl _) (Nat.le_refl _)⟩
/-- A copy of a list of posts behind another list of the call's own: its run. -/
theorem posts_more {W w : World} {B0 B n c k : Nat} {v : Value} {A : Option Addr} {bs ps : List Pt} (ho : W.ownsRow B0 76 5 v k (pcK ptL bs)) (h : LIn ptL 5 W B A n c ps) (hb : Below B0 w W) (h0 : B0 ≤ w.heap.size) (hn : k + n ≤ 1048576) :
    ∃ v' wf, (Builtin.append_ #[70, 70] 70 #[v, .slice A n c]).run Try.prog W = .ok v' wf ∧ wf.ownsRow B0 76 5 v' (k + n) (pcK ptL (bs ++ ps)) ∧ Below B0 w wf := by
  obtain ⟨i0, hi0, hz0, hzs, hzb⟩ := info_parts info_post
  obtain ⟨h1, h2, h3, h4⟩ := h
  obtain ⟨v', wf, k1, k2, k3, k4⟩ := run_app_all (P := Try.prog) W 70 70 B0 76 i0 _ 5 56 Try.underlying70 hi0 hz0 hzs hzb rfl (by decide) v k (pcK ptL bs) ho B A n c (pcK ptL ps) h3 h4 (pcK_one ptL_one ps) hn (by decide) (Nat.le_trans h0 hb.size)
  exact ⟨v', wf, k1, by rw [pcK_app]; exact k2, below_own hb k3 ho (Nat.le_refl _) (Nat.le_trans h0 hb.size)⟩
/-- One post more: its run. -/
theorem post_more {W w : World} {B0 k : Nat} {v : Value} {bs : List Pt} (ho : W.ownsRow B0 76 5 v k (pcK ptL bs)) (hb : Below B0 w W) (h0 : B0 ≤ w.heap.size) (p : Pt) (cs : Array Value) (hcs : cs = (ptL p).toArray) (hn : k + 1 ≤ 1048576) :
    ∃ v' wf, (Builtin.append_ #[70, 70] 70 #[v, .slice (some ⟨W.heap.size, 0, none⟩) 1 1]).run Try.prog (W.alloc (.cells cs 76)) = .ok v' wf ∧ wf.ownsRow B0 76 5 v' (k + 1) (pcK ptL (bs ++ [p])) ∧ Below B0 w wf := by
  have hB := Nat.le_trans h0 hb.size
  obtain ⟨v', wf, hrun, ho', hg, -⟩ := run_app_el (P := Try.prog) (enc := ptL) ptL_len ptL_one (by omega) Try.underlying70 info_post rfl (by omega) W B0 k v bs p cs hcs ho hn hB
  exact ⟨v', wf, hrun, ho', below_own (hb.alloc hB _) hg (ho.alloc _) (Nat.le_refl _) (by simp; omega)⟩
theorem okP_ok {p : Pt} (h : OkP p) : PtOk p := by
  have hp : ∀ i, i < 3 → (pfo i).length ≤ 10 := fun i hi => by rcases (by omega : i = 0 ∨ i = 1 ∨ i = 2) with rfl | rfl | rfl <;> decide
  have hb : ∀ i, i < 3 → (pbo i).length ≤ 10 := fun i hi => by rcases (by omega : i = 0 ∨ i = 1 ∨ i = 2) with rfl | rfl | rfl <;> decide
  rcases h with ⟨_, ⟨i, hi, e⟩, _, ⟨r, hr, e2⟩, _⟩ | ⟨_, e, _, e2, _⟩ | ⟨_, e, _, e2, _⟩
  · exact ⟨by rw [e]; have := hp i hi; omega, by rw [e2]; have := hb r hr; omega⟩
  · exact ⟨by rw [e]; simp, by rw [e2]; simp⟩
  · exact ⟨by rw [e]; simp, by rw [e2]; simp⟩
def ptA : Pt := ⟨1, [64, 97, 58, 120], 0, [104, 105], 0⟩
def ptF : Pt := ⟨2, [], 0, [], 0⟩
theorem pt_two : playB [ptA, ptF] = ([⟨0, 1, []⟩, ⟨0, 1, [⟨1, [64, 97, 58, 120], [104, 105]⟩]⟩], 0) := by
  have hu : user [64, 97, 58, 120] = some ([97], [120]) := by decide +kernel
  have h1 : gotB bs0 ptA = (⟨0, 1, []⟩, ⟨[ptA], 0, false⟩) := by
    have : execB bs0 ptA = ([], 0, ⟨[ptA], 0, false⟩) := by
      unfold execB sendR
      simp [ptA, bs0, hu, hadR]
    unfold gotB
    rw [this]
    rfl
  have h2 : gotB ⟨[ptA], 0, false⟩ ptF = (⟨0, 1, [⟨1, [64, 97, 58, 120], [104, 105]⟩]⟩, ⟨[ptA], 0, false⟩) := by
    have : execB ⟨[ptA], 0, false⟩ ptF = ([⟨1, [64, 97, 58, 120], [104, 105]⟩], 0, ⟨[ptA], 0, false⟩) := by
      unfold execB fetchR
      simp [ptF, Bs.wait, mlF, ptA]
    unfold gotB
    rw [this]
    rfl
  unfold playB
  rw [if_neg (by simp)]
  simp only [gotsB, h1, h2]
def PdPost (ps : List Pt) (w : World) (e : Ending) (w' : World) : Prop :=
  ∃ A c, e = .returned (.tuple #[.slice A ps.length c, .bool true]) ∧ GsIn w' w'.heap.size A ps.length c (gotsB bs0 ps).1 ∧ Below w.heap.size w w'
set_option maxHeartbeats 4000000 in
set_option maxRecDepth 100000 in
theorem posted_any (A : Option Addr) (n c B : Nat) (ps : List Pt) (w : World) (hl : LIn ptL 5 w B A n c ps) (hB : B ≤ w.heap.size) (hn : n ≤ 100) (hg : Gl w) (hok : ∀ p ∈ ps, PtOk p) :
    Calls Try.prog 29 #[.slice A n c] w (PdPost ps w) := by
  have hln := hl.1
  obtain ⟨v', wf, hrun, ho, hbf⟩ := posts_copy hl hB (by omega)
  rw [← hln] at ho
  obtain ⟨A1, c1, rfl, hin⟩ := LIn.own ptL_len ho
  rw [hln] at hin
  simp only [hln] at hrun
  have HP := Lib.hid (bplay_any A1 n c1 wf.heap.size ps wf hin (Nat.le_refl _) (by omega) (hg.below hbf) hok)
  have hpn : playB ps = ((gotsB bs0 ps).1, 0) := by unfold playB; rw [if_neg (by omega)]
  unfold BPost at HP
  rw [hpn] at HP
  have htl := gotsB_len ps bs0
  rw [hln] at htl
  simp only [htl] at HP
  unfold PdPost
  rw [hln]
  generalize (gotsB bs0 ps).1 = T at *
  have Hrun := Lib.hid hrun
  have Hbf := Lib.hid hbf
  have Hg := Lib.hid hg
  clear hl hrun hbf hin hpn htl hln ho hok hg
  go_enter Try.func29, Try.ntmps29
  go_wp2_with (first | (at_builtin; refine bx_app rfl _ _ _ rfl _ _ (by rfl) (by rfl) Hrun.out ?_; clear Hrun) | fail)
  refine HP.out.mono ?_
  rintro e w1 ⟨A2, c2, rfl, ht, hb1⟩
  have Hb1 := Lib.hid (Hbf.out.trans (hb1.mono Hbf.out.size))
  have Ht := Lib.hid ht
  clear ht hb1 HP
  obtain ⟨W, hW⟩ : ∃ W, w1.alloc (.cells #[.int .i64 1, .string ⟨#[64, 97, 58, 120]⟩, .int .i64 0, .string ⟨#[104, 105]⟩, .int .i64 0, .int .i64 2, .string ⟨#[]⟩, .int .i64 0, .string ⟨#[]⟩, .int .i64 0] 76) = W := ⟨_, rfl⟩
  have hWb : Below w1.heap.size w1 W := by rw [← hW]; exact (Below.refl _ _).alloc (Nat.le_refl _) _
  have hWB := Blk.new w1 76 #[.int .i64 1, .string ⟨#[64, 97, 58, 120]⟩, .int .i64 0, .string ⟨#[104, 105]⟩, .int .i64 0, .int .i64 2, .string ⟨#[]⟩, .int .i64 0, .string ⟨#[]⟩, .int .i64 0]
  rw [hW] at hWB
  have hlit : LIn ptL 5 W W.heap.size (some ⟨w1.heap.size, 0, none⟩) 2 2 [ptA, ptF] := by
    refine ⟨rfl, by omega, (fun h => by cases h), rfl, fun _ => ⟨w1.heap.size, 0, rfl, hWB.lt, fun j u hu => ?_⟩⟩
    rw [Nat.zero_add, hWB.cell j]
    simpa [pcK, ptL, ptA, ptF, str] using hu
  have HQ := Lib.hid (bplay_any _ 2 2 W.heap.size [ptA, ptF] W hlit (Nat.le_refl _) (by omega) (Hg.out.below (Hb1.out.trans (hWb.mono Hb1.out.size))) (by intro p hp; simp at hp; rcases hp with rfl | rfl <;> simp [PtOk, ptA, ptF]))
  unfold BPost at HQ
  rw [pt_two] at HQ
  have Hb2 := Lib.hid (Hb1.out.trans (hWb.mono Hb1.out.size))
  have HWb := Lib.hid hWb
  clear hlit hWb hWB
  go_wp2_with fail
  refine HQ.out.mono ?_
  rintro e w2 ⟨A3, c3, rfl, ht3, hb3⟩
  obtain ⟨b3, off3, Am, cm, hA3, hbb3, -, -, -, hd⟩ := ht3.at_ (i := 1) (by simp)
  subst hA3
  replace hd : w2.cell? ⟨b3, off3 + 1 * 3 + 2, none⟩ = some (.slice Am 1 cm) := hd
  rw [show off3 + 1 * 3 + 2 = off3 + 5 by omega] at hd
  have Hb3 := Lib.hid (Hb2.out.trans (hb3.mono Hb2.out.size))
  have hb13 := HWb.out.trans (hb3.mono HWb.out.size)
  have Ht3 := Lib.hid ((Ht.out.below hb13).wider hb13.size)
  clear ht3 hb3 hb13 HQ Ht hbb3
  dsimp only [List.length_cons, List.length_nil]
  go_wp2_with fail
  go_quiet (fail)
  go_wp2_with fail
  go_ret2
  exact ⟨A2, c2, rfl, Ht3.out.below (below_drewN (Below.refl _ _) _), below_drewN Hb3.out _⟩
theorem eq_mail (a : Int) (b c : List UInt8) (w : World) : (Op.equalIn 10000 115 (.agg #[.int .i64 a, str b, str c]) (.agg #[.int .i64 a, str b, str c])).run Try.prog w = .ok true w := by
  have u9 := Try.underlying9
  have e9 := fun (x y : List UInt8) (d : Nat) => eq_strS x y d w
  rw [show (10000 : Nat) = 9999 + 1 from rfl, run_equalIn_agg w 9999 115 _ _ (by kernel_rfl) (by kernel_rfl)]
  go_simp
theorem gd_mail (op : BinOp) (x y : Operand) (a : Int) (b c : List UInt8) (w : World) : (eqGuard op 115 x y (.agg #[.int .i64 a, str b, str c]) (.agg #[.int .i64 a, str b, str c])).run Try.prog w = .ok () w := run_eqGuard_agg w op 115 x y _ _ (by kernel_rfl)
def SgR (W : World) (n : Nat) (gk : Nat) (i : Value) (wr : World) : Prop :=
  ∃ k q : Nat, i = .int .i64 (k : Int) ∧ k ≤ n ∧ gk = n - k ∧ wr = W.drewN q
set_option maxHeartbeats 2000000 in
set_option maxRecDepth 100000 in
/-- sameGot at two results that are the same. -/
theorem sameGot_any (g : Gt) (A A' : Option Addr) (c c' B B' : Nat) (w : World) (h1 : LIn mlL 3 w B A g.mail.length c g.mail) (h2 : LIn mlL 3 w B' A' g.mail.length c' g.mail) (hB : B ≤ w.heap.size) (hB' : B' ≤ w.heap.size) (hn : g.mail.length ≤ 1048576) :
    Calls Try.prog 30 #[.agg #[.int .i64 g.code, .int .i64 g.next, .slice A g.mail.length c], .agg #[.int .i64 g.code, .int .i64 g.next, .slice A' g.mail.length c']] w fun e w' => e = .returned (.bool true) ∧ Below w.heap.size w w' := by
  obtain ⟨gc, gx, gm⟩ := g
  simp only at h1 h2 hn ⊢
  have hgl : gm.length = gm.length := rfl
  obtain ⟨E, hE⟩ : ∃ E, (w.alloc (.cells #[.int .i64 gc, .int .i64 gx, .slice A gm.length c] 79)).alloc (.cells #[.int .i64 gc, .int .i64 gx, .slice A' gm.length c'] 79) = E := ⟨_, rfl⟩
  have hb : Below w.heap.size w E := by rw [← hE]; exact ((Below.refl _ _).alloc (Nat.le_refl _) _).alloc (by simp) _
  have hB1 : Blk E w.heap.size 79 #[.int .i64 gc, .int .i64 gx, .slice A gm.length c] := by rw [← hE]; exact (Blk.new _ _ _).alloc _
  have hB2 : Blk E (w.heap.size + 1) 79 #[.int .i64 gc, .int .i64 gx, .slice A' gm.length c'] := by
    have := Blk.new (w.alloc (.cells #[.int .i64 gc, .int .i64 gx, .slice A gm.length c] 79)) 79 #[.int .i64 gc, .int .i64 gx, .slice A' gm.length c']
    rw [hE] at this
    simpa using this
  have x0 : E.cell? ⟨w.heap.size, 0, none⟩ = some (.int .i64 gc) := hB1.cell 0
  have x1 : E.cell? ⟨w.heap.size, 1, none⟩ = some (.int .i64 gx) := hB1.cell 1
  have x2 : E.cell? ⟨w.heap.size, 2, none⟩ = some (.slice A gm.length c) := hB1.cell 2
  have y0 : E.cell? ⟨w.heap.size + 1, 0, none⟩ = some (.int .i64 gc) := hB2.cell 0
  have y1 : E.cell? ⟨w.heap.size + 1, 1, none⟩ = some (.int .i64 gx) := hB2.cell 1
  have y2 : E.cell? ⟨w.heap.size + 1, 2, none⟩ = some (.slice A' gm.length c') := hB2.cell 2
  have H1 := Lib.hid (h1.below (hb.mono hB))
  have H2 := Lib.hid (h2.below (hb.mono hB'))
  have Hb := Lib.hid hb
  have HE := Lib.hid hE
  have e1 : (gc != gc) = false := by simp
  have e2 : (gx != gx) = false := by simp
  have e3 : ((gm.length : Int) != (gm.length : Int)) = false := by simp
  obtain ⟨n, hnn⟩ : ∃ n, gm.length = n := ⟨_, rfl⟩
  have Hnn := Lib.hid hnn
  rw [hnn] at x2 y2 H1 H2 HE hn e3 ⊢
  clear h1 h2 hB1 hB2 hb hE hgl hnn
  go_enter Try.func30, Try.ntmps30
  go_wp2_with fail
  rw [HE.out]
  go_wp2_with fail
  go_loopg [5] n (SgR E n)
  case atStart => exact ⟨0, 0, rfl, by omega, by omega, rfl⟩
  case round =>
    obtain ⟨k, q, rfl, hk, hg, rfl⟩ := hrel
    have Hgk := Lib.hid hg
    clear hg
    have z0 : (E.drewN q).cell? ⟨w.heap.size, 2, none⟩ = some (.slice A n c) := x2
    have z1 : (E.drewN q).cell? ⟨w.heap.size + 1, 2, none⟩ = some (.slice A' n c') := y2
    by_cases hlt : k < n
    · have hkl : k < gm.length := by rw [Hnn.out]; exact hlt
      obtain ⟨b, off, hA, _, c0, c1, c2⟩ := ml_at H1.out hkl
      obtain ⟨b', off', hA', _, d0, d1, d2⟩ := ml_at H2.out hkl
      subst hA hA'
      generalize gm[k] = m at *
      obtain ⟨ma, mf, mb⟩ := m
      simp only at c0 c1 c2 d0 d1 d2
      have hki : (k : Int) < (n : Int) := by omega
      have heq := fun W => eq_mail ma mf mb W
      have hgd := fun x y W => gd_mail BinOp.neq x y ma mf mb W
      go_wp2_with fail
      go_quiet (fail)
      go_wp2_with fail
      go_roundg (n - (k + 1))
      case measure => have := Hgk.out; omega
      case rel => exact ⟨k + 1, _, by go_num, by omega, rfl, rfl⟩
    · have hki : ¬ (k : Int) < (n : Int) := by omega
      go_wp2_with fail
      go_ret
      exact ⟨rfl, below_drewN Hb.out _⟩
end Go.Proofs.Ytmlgaedhfannmaa
