/- Proved here: fetching again from the same position returns the same messages, and repeated sends have no effect (statement BoxAgain). No condition. -/
import Derived.Test.YtmlgaedhfannmaaBxAg
import Derived.Test.YtmlgaedhfannmaaBxLo
import Derived.Test.YtmlgaedhfannmaaBunO
import Derived.HandedShaped
import Derived.Deep.CutBlock
import Derived.Deep.CutRange
namespace Go.Proofs.Ytmlgaedhfannmaa
set_option linter.unusedVariables false
set_option linter.unusedSimpArgs false
open Go.RowKit
def ftC (c : Nat) : Pt := ⟨2, [], 0, [], (c : Int)⟩
def AgR (W : World) (k : Nat) (l : List Pt) (v : Value) (wx : World) : Prop := wx.ownsRow W.heap.size 76 5 v k (pcK ptL l) ∧ Below W.heap.size W wx
/-- What is posted the second time. -/
def AgL (g : Gt) (k : Nat) (l : List Pt) : Prop := l.length = k ∧ 2 ≤ k ∧ k ≤ 63 ∧ (∀ p ∈ l, PtOk p) ∧ (gotsB bs0 l).1[k - 1]? = some g ∧ (gotsB bs0 l).1[k - 2]? = some g
theorem agF_lit (W : World) (c : Nat) : LIn ptL 5 (W.alloc (.cells #[.int .i64 2, .string ⟨#[]⟩, .int .i64 0, .string ⟨#[]⟩, .int .i64 (c : Int), .int .i64 2, .string ⟨#[]⟩, .int .i64 0, .string ⟨#[]⟩, .int .i64 (c : Int)] 76)) (W.heap.size + 1) (some ⟨W.heap.size, 0, none⟩) 2 2 [ftC c, ftC c] := by
  have hB := Blk.new W 76 #[.int .i64 2, .string ⟨#[]⟩, .int .i64 0, .string ⟨#[]⟩, .int .i64 (c : Int), .int .i64 2, .string ⟨#[]⟩, .int .i64 0, .string ⟨#[]⟩, .int .i64 (c : Int)]
  refine ⟨rfl, by omega, (fun h => by cases h), rfl, fun _ => ⟨W.heap.size, 0, rfl, by omega, fun j u hu => ?_⟩⟩
  rw [Nat.zero_add, hB.cell j]
  simpa [pcK, ptL, ftC, str] using hu
theorem ag_one (W : World) (p : Pt) (cs : Array Value) (hcs : cs = (ptL p).toArray) : LIn ptL 5 (W.alloc (.cells cs 76)) (W.heap.size + 1) (some ⟨W.heap.size, 0, none⟩) 1 1 [p] := by
  subst hcs
  have hB := Blk.new W 76 (ptL p).toArray
  refine ⟨rfl, by omega, (fun h => by cases h), rfl, fun _ => ⟨W.heap.size, 0, rfl, by omega, fun j u hu => ?_⟩⟩
  rw [Nat.zero_add, hB.cell j]
  simpa [pcK] using hu
set_option maxHeartbeats 8000000 in
set_option maxRecDepth 100000 in
theorem walkBoxAgain (A0 : Option Addr) (n0 c0 : Nat) (x1 : Int) (w : World) (hx0 : IntsAt w w.heap.size A0 n0 c0) (hx1 : -9223372036854775808 ≤ x1 ∧ x1 ≤ 9223372036854775807) (hsh : w.ShapedOpen Try.prog) :
    Calls Try.prog 12 #[.slice A0 n0 c0, .int .i64 x1] w fun e w' => e = .returned (.bool true) ∧ Below w.heap.size w w' := by
  have hg := Gl.of hsh
  have H1 := Lib.hid (posts_any A0 n0 c0 w.heap.size 60 w hx0 (Nat.le_refl _) (by decide))
  have Hg := Lib.hid hg
  clear hx0 hsh hg
  go_enter Try.func12, Try.ntmps12
  go_wp2_with fail
  refine H1.out.mono ?_
  rintro e w1 ⟨v1, ps, rfl, ho1, hlen, hok, b1⟩
  obtain ⟨A1, c1, rfl, hin1⟩ := LIn.own ptL_len ho1
  obtain ⟨n, hn⟩ : ∃ n, ps.length = n := ⟨_, rfl⟩
  have hn60 : n ≤ 60 := by omega
  rw [hn] at hin1 ⊢
  obtain ⟨v2, w2, hrun2, ho2, hb2⟩ := posts_copy hin1 (Nat.le_refl _) (by omega)
  obtain ⟨v3, w3, hrun3, ho3, hg3⟩ := post_moreG ho2 hb2.size ptF #[.int .i64 2, .string ⟨#[]⟩, .int .i64 0, .string ⟨#[]⟩, .int .i64 0] rfl (by omega)
  have hb3 : Below w1.heap.size w1 w3 := hb2.grown hg3 hb2.size fun g hg => (World.ownsRow.lt ho2 g hg).1
  have hl3 : (ps ++ [ptF]).length = n + 1 := by rw [List.length_append, hn]; rfl
  obtain ⟨A3, c3, hv3, hin3⟩ := LIn.own ptL_len (by rw [hl3]; exact ho3)
  subst hv3
  rw [hl3] at hin3
  simp only [hl3] at hrun3
  have hokp : ∀ p ∈ ps, PtOk p := fun p hp => okP_ok (hok p hp)
  have hok3 : ∀ p ∈ ps ++ [ptF], PtOk p := fun p hp => by
    rcases List.mem_append.1 hp with hp | hp
    · exact hokp p hp
    · have e : p = ptF := by simpa using hp
      rw [e]; simp [PtOk, ptF]
  have HP := Lib.hid (posted_any A3 (n + 1) c3 w3.heap.size _ w3 hin3 (Nat.le_refl _) (by omega) (Hg.out.below (b1.trans (hb3.mono b1.size))) hok3)
  unfold PdPost at HP
  rw [hl3] at HP
  have hR : (gotsB bs0 (ps ++ [ptF])).1[n]? = some (gotB (gotsB bs0 ps).2 ptF).1 := by rw [← hn]; exact gots_last bs0 ps ptF
  have hRl : (gotsB bs0 (ps ++ [ptF])).1.length = n + 1 := by rw [gotsB_len, hl3]
  have hNz := next_zero (gotsB bs0 ps).2
  have hNl : (gotsB bs0 ps).2.acc.length ≤ 60 := by
    have h1 := gots_grow ps bs0
    have h0 : bs0.acc.length = 0 := rfl
    omega
  have HcR := Lib.hid (fun c hc => again_R ps c hc)
  -- the last post, if it was a send without an error
  have HLs : Hid (∀ i (hi : i < ps.length), i + 1 = n → (gotsB bs0 (ps ++ [ptF])).1[i]? = some (gotB (gotsB bs0 (ps.take i)).2 ps[i]).1 ∧ ps = ps.take i ++ [ps[i]]) := Lib.hid fun i hi hin => by
    refine ⟨?_, ?_⟩
    · rw [gotsB_app]
      simp only
      rw [List.getElem?_append_left (by rw [gotsB_len]; exact hi)]
      exact gots_at bs0 hi
    · rw [← List.take_succ_eq_append_getElem hi, List.take_of_length_le (by omega)]
  generalize (gotsB bs0 (ps ++ [ptF])).1 = R at *
  obtain ⟨N, hN⟩ : ∃ N, (gotsB bs0 ps).2.acc.length = N := ⟨_, rfl⟩
  have HNN := Lib.hid hN
  rw [hN] at hNz hNl HcR
  have Hrun2 := Lib.hid hrun2
  have Hrun3 := Lib.hid hrun3
  have Hin1 := Lib.hid (hin1.below hb3)
  have HB3 := Lib.hid (b1.trans (hb3.mono b1.size))
  have Hb3 := Lib.hid hb3
  have Hok := Lib.hid hokp
  have HokF := Lib.hid (show ∀ (c : Nat) (l : List Pt), (∀ p ∈ l, PtOk p) → ∀ p ∈ l ++ [ftC c, ftC c], PtOk p from fun c l h p hp => by
    rcases List.mem_append.1 hp with hp | hp
    · exact h p hp
    · have e : p = ftC c := by simpa using hp
      rw [e]; simp [PtOk, ftC])
  have HokG := Lib.hid (show ∀ (c : Nat) (l : List Pt), (∀ p ∈ l, PtOk p) → ∀ p ∈ l ++ [ftC c], PtOk p from fun c l h p hp => by
    rcases List.mem_append.1 hp with hp | hp
    · exact h p hp
    · have e : p = ftC c := by simpa using hp
      rw [e]; simp [PtOk, ftC])
  have HR := Lib.hid hR
  have HRl := Lib.hid hRl
  have HNz := Lib.hid hNz
  have Hn := Lib.hid hn
  clear ho1 hlen hok b1 hrun2 ho2 hb2 hrun3 ho3 hg3 hb3 hl3 hin3 hokp hok3 hR hRl hNz hN hn hin1 H1
  go_wp2_with (first | (at_builtin; refine bx_app rfl _ _ _ rfl _ _ (by rfl) (by rfl) Hrun2.out ?_; clear Hrun2) | (at_builtin; refine bx_app rfl _ _ _ rfl _ _ (by rfl) (by rfl) Hrun3.out ?_; clear Hrun3) | fail)
  refine HP.out.mono ?_
  rintro e w4 ⟨A4, c4, rfl, hin4, b4⟩
  have hidx : n < R.length := by rw [HRl.out]; omega
  obtain ⟨bg, og, Am, cm, hA4, hbg, -, e0, e1, e2⟩ := hin4.at_ hidx
  subst hA4
  have hRi := HR.out
  rw [List.getElem?_eq_getElem hidx] at hRi
  injection hRi with hRi
  rw [hRi, HNz.out.2] at e1
  have Hin14 := Lib.hid ((Hin1.out.below (b4.mono Hb3.out.size)).wider (Nat.le_trans Hb3.out.size b4.size))
  have Hin4 := Lib.hid hin4
  have HB4 := Lib.hid (HB3.out.trans (b4.mono HB3.out.size))
  have hwn : IntKind.i64.wrap (((n + 1 : Nat) : Int) - 1) = (n : Int) := by rw [IntWalk.i64_in _ (by omega)]; omega
  have hni : (n : Int) < ((n + 1 : Nat) : Int) := by omega
  have hwN : IntKind.i64.wrap ((N : Int) + 1) = ((N + 1 : Nat) : Int) := by rw [IntWalk.i64_in _ (by omega)]; omega
  obtain ⟨c, hc, hcN⟩ := pick_nat x1 (N + 1) (by omega)
  have Hc := Lib.hid hc
  obtain ⟨q1, q2, q3, q4⟩ := HcR.out c (by omega)
  have HPk := Lib.hid (picked_k x1 ((N + 1 : Nat) : Int) w4 (by omega) (by omega))
  clear hin4 b4 HP hRi hc e0 e2 HR HNz HcR Hin1 Hb3
  go_wp2_with fail
  refine HPk.out.mono ?_
  rintro e w5 ⟨rfl, hw5⟩
  subst hw5
  rw [Hc.out]
  obtain ⟨W5, hW5⟩ : ∃ W5, w5.alloc (.cells #[.int .i64 2, .string ⟨#[]⟩, .int .i64 0, .string ⟨#[]⟩, .int .i64 (c : Int)] 76) = W5 := ⟨_, rfl⟩
  have hB5 := Blk.new w5 76 #[.int .i64 2, .string ⟨#[]⟩, .int .i64 0, .string ⟨#[]⟩, .int .i64 (c : Int)]
  have hb5 : Below w5.heap.size w5 W5 := by rw [← hW5]; exact (Below.refl _ _).alloc (Nat.le_refl _) _
  rw [hW5] at hB5
  have hs5 : W5.heap.size = w5.heap.size + 1 := by rw [← hW5]; simp
  have HW5 := Lib.hid hW5
  have HB5 := Lib.hid hB5
  have Hin15 := Lib.hid ((Hin14.out.below hb5).wider hb5.size)
  have Hin45 := Lib.hid ((Hin4.out.below hb5).wider hb5.size)
  have HBw5 := Lib.hid (HB4.out.trans (hb5.mono HB4.out.size))
  generalize hgg : (gotB (gotsB bs0 ps).2 ⟨2, [], 0, [], (c : Int)⟩).1 = gg at q1 q2 q3 q4
  have Q1 := Lib.hid q1
  have Q2 := Lib.hid q2
  have Q3 := Lib.hid q3
  have Q4 := Lib.hid q4
  have Hgg := Lib.hid hgg
  clear hW5 hB5 hb5 q1 q2 q3 q4 hgg HPk Hc Hin14 Hin4
  obtain ⟨g9, hg9⟩ : ∃ g9, w5.heap.size = g9 := ⟨_, rfl⟩
  rw [hg9] at HB5 hs5
  have Hg9 := Lib.hid hg9
  have hg9l : g9 < W5.heap.size := by omega
  clear hg9 hs5
  go_upto_region 7 with (fail)
  rw [HW5.out, Hg9.out]
  go_cut [10] from 41 to 46 (fun s10 wx => AgR W5 (n + 2) (ps ++ [ftC c, ftC c]) s10 wx)
  case first =>
    obtain ⟨Wd, hWd⟩ : ∃ Wd, W5.drew = Wd := ⟨_, rfl⟩
    have hbd : Below W5.heap.size W5 Wd := by rw [← hWd]; exact below_drewN (Below.refl _ _) 1
    have hds : Wd.heap.size = W5.heap.size := by rw [← hWd]; rfl
    have HF : Hid (∀ w', Below Wd.heap.size Wd w' → w'.cell? ⟨g9, 0, none⟩ = some (.int .i64 2) ∧ w'.cell? ⟨g9, 1, none⟩ = some (.string ⟨#[]⟩) ∧ w'.cell? ⟨g9, 2, none⟩ = some (.int .i64 0) ∧ w'.cell? ⟨g9, 3, none⟩ = some (.string ⟨#[]⟩) ∧ w'.cell? ⟨g9, 4, none⟩ = some (.int .i64 (c : Int))) := Lib.hid fun w' hw' => by
      have hB := (HB5.out.below hbd (by omega)).below hw' (by omega)
      exact ⟨hB.cell 0, hB.cell 1, hB.cell 2, hB.cell 3, hB.cell 4⟩
    have hps := Hin15.out.below hbd
    have HT : Hid (∀ k l v wx, wx.ownsRow Wd.heap.size 76 5 v k (pcK ptL l) → Below Wd.heap.size Wd wx → AgR W5 k l v wx) := Lib.hid fun k l v wx h1 h2 => by
      unfold AgR
      rw [hds] at h1 h2
      exact ⟨h1, hbd.trans h2⟩
    have Hps := Lib.hid hps
    have hS0 : Below Wd.heap.size Wd Wd := Below.refl _ _
    have HWd := Lib.hid hWd
    have hWW : W5.heap.size ≤ Wd.heap.size := by omega
    clear hps hbd hWd hds
    refine region_S (fun w' => Below Wd.heap.size Wd w') [] (by kernel_rfl) ?_
    rw [HWd.out]
    refine anyS_take 0 (v := .slice A1 n c1) rfl (by kernel_rfl) (by kernel_rfl) (by kernel_rfl) (by kernel_rfl) (fun _ _ _ h => h) (.inl ⟨by kernel_rfl, fun w' hS' => by kernel_rfl⟩) hS0 ?_
    refine anyS_take 2 (v := .agg #[.int .i64 2, .string ⟨#[]⟩, .int .i64 0, .string ⟨#[]⟩, .int .i64 (c : Int)]) rfl (by kernel_rfl) (by kernel_rfl) (by kernel_rfl) (by kernel_rfl) (fun _ _ _ h => h) (.inl ⟨by kernel_rfl, fun w' hS' => by obtain ⟨y0, y1, y2, y3, y4⟩ := HF.out w' hS'; go_simp⟩) hS0 ?_
    refine anyS_take 3 (v := .agg #[.int .i64 2, .string ⟨#[]⟩, .int .i64 0, .string ⟨#[]⟩, .int .i64 (c : Int)]) rfl (by kernel_rfl) (by kernel_rfl) (by kernel_rfl) (by kernel_rfl) (fun _ _ _ h => h) (.inl ⟨by kernel_rfl, fun w' hS' => by obtain ⟨y0, y1, y2, y3, y4⟩ := HF.out w' hS'; go_simp⟩) hS0 ?_
    go_simp
    refine anyS_two 1 4 rfl rfl (by kernel_rfl) rfl rfl ?_ ?_
    · obtain ⟨va, wa, hra, hoa, hba⟩ := posts_copy (Hps.out.wider hWW) (Nat.le_refl _) (by omega)
      have hba2 : Below Wd.heap.size Wd (wa.alloc (.cells #[.int .i64 2, .string ⟨#[]⟩, .int .i64 0, .string ⟨#[]⟩, .int .i64 (c : Int), .int .i64 2, .string ⟨#[]⟩, .int .i64 0, .string ⟨#[]⟩, .int .i64 (c : Int)] 76)) := hba.alloc hba.size _
      obtain ⟨vb, wb, hrb, hob, hgb⟩ := posts_moreG (hoa.alloc (.cells #[.int .i64 2, .string ⟨#[]⟩, .int .i64 0, .string ⟨#[]⟩, .int .i64 (c : Int), .int .i64 2, .string ⟨#[]⟩, .int .i64 0, .string ⟨#[]⟩, .int .i64 (c : Int)] 76)) (agF_lit wa c) hba2.size (by omega)
      have hbb : Below Wd.heap.size Wd wb := hba2.grown hgb hba2.size fun g hg => (World.ownsRow.lt hoa g hg).1
      have HA := Lib.hid (HT.out _ _ _ _ hob hbb)
      clear hoa hob hgb
      intro K1 hK1
      refine oper_app _ _ _ rfl _ _ (by rfl) (by rfl) hra ?_
      refine hK1 _ _ ⟨fun _ => hba, ?_⟩
      refine anyS_one 4 rfl (by kernel_rfl) rfl ?_
      intro K4 hK4
      go_simp
      refine hK4 _ _ ⟨fun _ => hba2, ?_⟩
      refine anyS_one 5 rfl (by kernel_rfl) rfl ?_
      intro K5 hK5
      refine oper_app _ _ _ rfl _ _ (by rfl) (by rfl) hrb ?_
      refine hK5 _ _ ⟨fun _ => hbb, ?_⟩
      refine anyS_one 6 rfl (by kernel_rfl) rfl ?_
      intro K6 hK6
      go_simp
      refine hK6 _ _ ⟨fun _ => hbb, ?_⟩
      refine anyS_done (by kernel_rfl) ?_
      go_wp2_with fail
      go_meet
      exact HA.out
    · have hba : Below Wd.heap.size Wd (Wd.alloc (.cells #[.int .i64 2, .string ⟨#[]⟩, .int .i64 0, .string ⟨#[]⟩, .int .i64 (c : Int), .int .i64 2, .string ⟨#[]⟩, .int .i64 0, .string ⟨#[]⟩, .int .i64 (c : Int)] 76)) := hS0.alloc (Nat.le_refl _) _
      have hlf := agF_lit Wd c
      obtain ⟨W6, hW6⟩ : ∃ W6, Wd.alloc (.cells #[.int .i64 2, .string ⟨#[]⟩, .int .i64 0, .string ⟨#[]⟩, .int .i64 (c : Int), .int .i64 2, .string ⟨#[]⟩, .int .i64 0, .string ⟨#[]⟩, .int .i64 (c : Int)] 76) = W6 := ⟨_, rfl⟩
      have hs6 : W6.heap.size = Wd.heap.size + 1 := by rw [← hW6]; simp
      rw [hW6] at hba hlf
      obtain ⟨va, wa, hra, hoa, hba2⟩ := posts_copy (((Hps.out.wider hWW).below hba).wider hba.size) (Nat.le_refl _) (by omega)
      have hbw : Below Wd.heap.size Wd wa := hba.trans (hba2.mono hba.size)
      obtain ⟨vb, wb, hrb, hob, hgb⟩ := posts_moreG (own_le hoa hba.size) ((hlf.wider (by omega)).below hba2) hbw.size (by omega)
      have hbb : Below Wd.heap.size Wd wb := hbw.grown hgb hbw.size fun g hg => by have := (World.ownsRow.lt hoa g hg).1; omega
      have HA := Lib.hid (HT.out _ _ _ _ hob hbb)
      have HW6 := Lib.hid hW6
      clear hoa hob hgb hlf hba2 hW6 hs6
      intro K4 hK4
      go_simp
      rw [HW6.out]
      refine hK4 _ _ ⟨fun _ => hba, ?_⟩
      refine anyS_one 1 rfl (by kernel_rfl) rfl ?_
      intro K1 hK1
      refine oper_app _ _ _ rfl _ _ (by rfl) (by rfl) hra ?_
      refine hK1 _ _ ⟨fun _ => hbw, ?_⟩
      refine anyS_one 5 rfl (by kernel_rfl) rfl ?_
      intro K5 hK5
      refine oper_app _ _ _ rfl _ _ (by rfl) (by rfl) hrb ?_
      refine hK5 _ _ ⟨fun _ => hbb, ?_⟩
      refine anyS_one 6 rfl (by kernel_rfl) rfl ?_
      intro K6 hK6
      go_simp
      refine hK6 _ _ ⟨fun _ => hbb, ?_⟩
      refine anyS_done (by kernel_rfl) ?_
      go_wp2_with fail
      go_meet
      exact HA.out
  case rest =>
    obtain ⟨ho10, hbc⟩ := hcut
    have Hbc := Lib.hid hbc
    have Ho10 := Lib.hid ho10
    clear ho10 hbc
    obtain ⟨W7, hW7⟩ : ∃ W7, W7 = wc := ⟨_, rfl⟩
    subst hW7
    go_upto_region 8 with (fail)
    go_cut [69] from 47 to 69 (fun s69 wx => wx = W7 ∧ ∃ bb : Bool, s69 = .bool bb ∧ (bb = true → ∃ (k : Nat) (p : Pt), n = k + 1 ∧ ps = ps.take k ++ [p] ∧ ps[k]? = some p ∧ p.kind = 1 ∧ (gotB (gotsB bs0 (ps.take k)).2 p).1.code = 0))
    case first =>
      by_cases hn0 : n = 0
      · have hng : ¬ (0 : Int) < (n : Int) := by omega
        have hng2 : ¬ 0 < n := by omega
        have Hn0 := Lib.hid hn0
        clear hn0
        go_wp2_with fail
        go_meet
        exact ⟨rfl, false, rfl, fun h => by cases h⟩
      · obtain ⟨kk, hkk⟩ : ∃ kk, n = kk + 1 := ⟨n - 1, by omega⟩
        have hkl : kk < ps.length := by have := Hn.out; omega
        obtain ⟨r1, r2⟩ := HLs.out kk hkl hkk.symm
        obtain ⟨b1, o1, hA1, hb1, p0, -, -, -, -⟩ := pt_at (Hin15.out.below Hbc.out) hkl
        have hkR : kk < R.length := by rw [HRl.out]; omega
        obtain ⟨b6, o6, Am6, cm6, hA6, hb6, -, g0, -, -⟩ := (Hin45.out.below Hbc.out).at_ hkR
        subst hA1
        injection hA6 with hA6
        injection hA6 with z1 z2
        subst z1 z2
        rw [List.getElem?_eq_getElem hkR] at r1
        injection r1 with r1
        rw [r1] at g0
        have HE := Lib.hid (List.getElem?_eq_getElem hkl)
        have Hr2 := Lib.hid r2
        obtain ⟨p, hp⟩ : ∃ p, ps[kk] = p := ⟨_, rfl⟩
        rw [hp] at p0 g0 HE Hr2
        obtain ⟨kd, hkd⟩ : ∃ kd, p.kind = kd := ⟨_, rfl⟩
        obtain ⟨cd, hcd⟩ : ∃ cd, (gotB (gotsB bs0 (ps.take kk)).2 p).1.code = cd := ⟨_, rfl⟩
        rw [hkd] at p0
        rw [hcd] at g0
        have Hkd := Lib.hid hkd
        have Hcd := Lib.hid hcd
        have hwk : IntKind.i64.wrap ((n : Int) - 1) = (kk : Int) := by rw [IntWalk.i64_in _ (by omega)]; omega
        have hk1 : (kk : Int) < (n : Int) := by omega
        have hk2 : (kk : Int) < ((n + 1 : Nat) : Int) := by omega
        have hk3 : (0 : Int) < (n : Int) := by omega
        have hk4 : 0 < n := by omega
        have Hkk := Lib.hid hkk
        clear hp hkd hcd r1 r2 hkk hn0 hb6 hb1
        by_cases e1 : kd = 1
        · subst e1
          by_cases e2 : cd = 0
          · subst e2
            go_wp2_with fail
            go_meet
            exact ⟨rfl, true, rfl, fun _ => ⟨kk, p, Hkk.out, Hr2.out, HE.out, Hkd.out, Hcd.out⟩⟩
          · have f2 : (cd == 0) = false := by simpa using e2
            clear e2
            go_wp2_with fail
            go_meet
            exact ⟨rfl, false, rfl, fun h => by cases h⟩
        · have f1 : (kd == 1) = false := by simpa using e1
          clear e1
          go_wp2_with fail
          go_meet
          exact ⟨rfl, false, rfl, fun h => by cases h⟩
    case rest =>
      obtain ⟨rfl, bb, rfl, hbb⟩ := hcut
      have Hbb := Lib.hid hbb
      clear hbb
      obtain ⟨W8, hW8⟩ : ∃ W8, W8 = wc := ⟨_, rfl⟩
      subst hW8
      go_upto_if 69 with (fail)
      go_cut [10] from 70 to 83 (fun s10 wx => ∃ k l, AgL gg k l ∧ AgR W5 k l s10 wx)
      case first =>
        cases bb with
        | false =>
          have HL := Lib.hid (show AgL gg (n + 2) (ps ++ [ftC c, ftC c]) from ⟨by rw [List.length_append, Hn.out]; rfl, by omega, by omega, HokF.out c ps Hok.out, by have := Q4.out; rw [Hn.out] at this; exact this, by have := Q3.out; rw [Hn.out] at this; exact this⟩)
          go_wp2_with fail
          go_meet
          exact ⟨n + 2, _, HL.out, Ho10.out, Hbc.out⟩
        | true =>
          obtain ⟨kk, p, hkk, hps, hpk, hkd, hcd⟩ := Hbb.out rfl
          have hkl : kk < ps.length := by have := Hn.out; omega
          have hst : (gotsB bs0 (ps ++ [p])).2 = (gotsB bs0 ps).2 := by
            have h := again_S (ps.take kk) p hkd hcd
            rwa [← hps] at h
          have hr := again_R (ps ++ [p]) c (by rw [hst, HNN.out]; omega)
          rw [hst] at hr
          have hlp : (ps ++ [p]).length = n + 1 := by rw [List.length_append, Hn.out]; rfl
          have hokp2 : ∀ x ∈ ps ++ [p], PtOk x := fun x hx => by
            rcases List.mem_append.1 hx with hx | hx
            · exact Hok.out x hx
            · have e : x = p := by simpa using hx
              rw [e]; exact Hok.out p (List.mem_of_getElem? hpk)
          have HL := Lib.hid (show AgL gg (n + 1 + 2) (ps ++ [p] ++ [ftC c, ftC c]) from ⟨by rw [List.length_append, hlp]; rfl, by omega, by omega, HokF.out c _ hokp2, by
            have h := hr.2.2.2
            rw [hlp] at h
            rw [← Hgg.out]
            exact h, by
            have h := hr.2.2.1
            rw [hlp] at h
            rw [← Hgg.out]
            exact h⟩)
          obtain ⟨b1, o1, hA1, hb1, p0, p1, p2, p3, p4⟩ := pt_at (Hin15.out.below Hbc.out) hkl
          have hpe : ps[kk] = p := by rw [List.getElem?_eq_getElem hkl] at hpk; injection hpk
          rw [hpe] at p0 p1 p2 p3 p4
          subst hA1
          obtain ⟨pk, pf, pt, pb, psn⟩ := p
          simp only at hkd p0 p1 p2 p3 p4
          subst hkd
          have hwk : IntKind.i64.wrap ((n : Int) - 1) = (kk : Int) := by rw [IntWalk.i64_in _ (by omega)]; omega
          have hk1 : (kk : Int) < (n : Int) := by omega
          obtain ⟨Wd, hWd⟩ : ∃ Wd, W8.drew = Wd := ⟨_, rfl⟩
          have hbd : Below W8.heap.size W8 Wd := by rw [← hWd]; exact below_drewN (Below.refl _ _) 1
          have hbs := Hbc.out.size
          have hds := hbd.size
          have hb5d := Hbc.out.trans (hbd.mono hbs)
          have HF : Hid (∀ w', Below Wd.heap.size Wd w' → w'.cell? ⟨g9, 0, none⟩ = some (.int .i64 2) ∧ w'.cell? ⟨g9, 1, none⟩ = some (.string ⟨#[]⟩) ∧ w'.cell? ⟨g9, 2, none⟩ = some (.int .i64 0) ∧ w'.cell? ⟨g9, 3, none⟩ = some (.string ⟨#[]⟩) ∧ w'.cell? ⟨g9, 4, none⟩ = some (.int .i64 (c : Int))) := Lib.hid fun w' hw' => by
            have hB := (HB5.out.below hb5d (by omega)).below hw' (by omega)
            exact ⟨hB.cell 0, hB.cell 1, hB.cell 2, hB.cell 3, hB.cell 4⟩
          have HP : Hid (∀ w', Below Wd.heap.size Wd w' → w'.cell? ⟨b1, o1 + kk * 5, none⟩ = some (.int .i64 1) ∧ w'.cell? ⟨b1, o1 + kk * 5 + 1, none⟩ = some (str pf) ∧ w'.cell? ⟨b1, o1 + kk * 5 + 2, none⟩ = some (.int .i64 pt) ∧ w'.cell? ⟨b1, o1 + kk * 5 + 3, none⟩ = some (str pb) ∧ w'.cell? ⟨b1, o1 + kk * 5 + 4, none⟩ = some (.int .i64 psn)) := Lib.hid fun w' hw' => by
            have kc : ∀ o, w'.cell? ⟨b1, o, none⟩ = W8.cell? ⟨b1, o, none⟩ := fun o => (hw'.cell (p := ⟨b1, o, none⟩) (show b1 < Wd.heap.size by omega)).trans (hbd.cell (p := ⟨b1, o, none⟩) (show b1 < W8.heap.size by omega))
            exact ⟨(kc _).trans p0, (kc _).trans p1, (kc _).trans p2, (kc _).trans p3, (kc _).trans p4⟩
          have HT : Hid (∀ k l v wx, wx.ownsRow Wd.heap.size 76 5 v k (pcK ptL l) → Below Wd.heap.size Wd wx → AgR W5 k l v wx) := Lib.hid fun k l v wx h1 h2 => ⟨own_le h1 (by omega), hb5d.trans (h2.mono (by omega))⟩
          have Hps := Lib.hid ((Hin15.out.below hb5d).wider (show W5.heap.size ≤ Wd.heap.size by omega))
          have hS0 : Below Wd.heap.size Wd Wd := Below.refl _ _
          have HWd := Lib.hid hWd
          clear p0 p1 p2 p3 p4 hb5d hbd hWd hds hbs hst hr hlp hokp2 hcd hpk hps hpe hkl hb1 Hbb Ho10
          have Hkk := Lib.hid hkk
          clear hkk
          go_wp2_with fail
          refine region_S (fun w' => Below Wd.heap.size Wd w') [] (by kernel_rfl) ?_
          rw [HWd.out]
          refine anyS_take 0 (v := .slice (some ⟨b1, o1, none⟩) n c1) rfl (by kernel_rfl) (by kernel_rfl) (by kernel_rfl) (by kernel_rfl) (fun _ _ _ h => h) (.inl ⟨by kernel_rfl, fun w' hS' => by kernel_rfl⟩) hS0 ?_
          refine anyS_take 2 (v := .slice (some ⟨b1, o1, none⟩) n c1) rfl (by kernel_rfl) (by kernel_rfl) (by kernel_rfl) (by kernel_rfl) (fun _ _ _ h => h) (.inl ⟨by kernel_rfl, fun w' hS' => by kernel_rfl⟩) hS0 ?_
          go_simp
          refine anyS_take 3 (v := .slice (some ⟨b1, o1, none⟩) n c1) rfl (by kernel_rfl) (by kernel_rfl) (by kernel_rfl) (by kernel_rfl) (fun _ _ _ h => h) (.inl ⟨by kernel_rfl, fun w' hS' => by kernel_rfl⟩) hS0 ?_
          refine anyS_take 4 (v := .int .i64 (n : Int)) rfl (by kernel_rfl) (by kernel_rfl) (by kernel_rfl) (by kernel_rfl) (fun _ _ _ h => h) (.inl ⟨by kernel_rfl, fun w' hS' => by go_simp⟩) hS0 ?_
          go_simp
          refine anyS_take 5 (v := .int .i64 (kk : Int)) rfl (by kernel_rfl) (by kernel_rfl) (by kernel_rfl) (by kernel_rfl) (fun _ _ _ h => h) (.inl ⟨by kernel_rfl, fun w' hS' => by go_simp⟩) hS0 ?_
          refine anyS_take 6 (v := .pointer (some ⟨b1, o1 + kk * 5, none⟩)) rfl (by kernel_rfl) (by kernel_rfl) (by kernel_rfl) (by kernel_rfl) (fun _ _ _ h => h) (.inl ⟨by kernel_rfl, fun w' hS' => by go_simp⟩) hS0 ?_
          go_simp
          refine anyS_take 7 (v := .agg #[.int .i64 1, str pf, .int .i64 pt, str pb, .int .i64 psn]) rfl (by kernel_rfl) (by kernel_rfl) (by kernel_rfl) (by kernel_rfl) (fun _ _ _ h => h) (.inl ⟨by kernel_rfl, fun w' hS' => by obtain ⟨y0, y1, y2, y3, y4⟩ := HP.out w' hS'; go_simp⟩) hS0 ?_
          refine anyS_take 10 (v := .agg #[.int .i64 2, .string ⟨#[]⟩, .int .i64 0, .string ⟨#[]⟩, .int .i64 (c : Int)]) rfl (by kernel_rfl) (by kernel_rfl) (by kernel_rfl) (by kernel_rfl) (fun _ _ _ h => h) (.inl ⟨by kernel_rfl, fun w' hS' => by obtain ⟨y0, y1, y2, y3, y4⟩ := HF.out w' hS'; go_simp⟩) hS0 ?_
          go_simp
          refine anyS_take 11 (v := .agg #[.int .i64 2, .string ⟨#[]⟩, .int .i64 0, .string ⟨#[]⟩, .int .i64 (c : Int)]) rfl (by kernel_rfl) (by kernel_rfl) (by kernel_rfl) (by kernel_rfl) (fun _ _ _ h => h) (.inl ⟨by kernel_rfl, fun w' hS' => by obtain ⟨y0, y1, y2, y3, y4⟩ := HF.out w' hS'; go_simp⟩) hS0 ?_
          go_simp
          refine anyS_three 1 8 12 rfl rfl rfl (by kernel_rfl) rfl rfl rfl ?_ ?_ ?_
          · skip
            obtain ⟨vA, wA, hrA, hoA, hxA⟩ := posts_copy (((Hps.out).below hS0).wider hS0.size) (Nat.le_refl _) (by omega)
            have hbA : Below Wd.heap.size Wd wA := hS0.trans (hxA.mono hS0.size)
            have hwA := own_le hoA hS0.size
            have hlA : ∀ g, vA.ownBlock = some g → Wd.heap.size ≤ g := fun g hg => (World.ownsRow.lt hoA g hg).1
            intro KA hKA
            refine oper_app _ _ _ rfl _ _ (by rfl) (by rfl) hrA ?_
            refine hKA _ _ ⟨fun _ => hbA, ?_⟩
            refine anyS_two 8 12 rfl rfl (by kernel_rfl) rfl rfl ?_ ?_
            · skip
              obtain ⟨wAB, hWAB⟩ : ∃ x, wA.alloc (.cells #[.int .i64 1, str pf, .int .i64 pt, str pb, .int .i64 psn] 76) = x := ⟨_, rfl⟩
              have hxAB : Below wA.heap.size wA wAB := by rw [← hWAB]; exact (Below.refl _ _).alloc (Nat.le_refl _) _
              have hsAB : wAB.heap.size = wA.heap.size + 1 := by rw [← hWAB]; simp
              have hzAB := ag_one wA ⟨1, pf, pt, pb, psn⟩ #[.int .i64 1, str pf, .int .i64 pt, str pb, .int .i64 psn] rfl
              rw [hWAB] at hzAB
              have hAB_B := hzAB.wider (B' := wAB.heap.size) (by omega)
              have hbAB : Below Wd.heap.size Wd wAB := hbA.trans (hxAB.mono hbA.size)
              have hAB_A := own_below hwA hxAB
              have hdAB_A : ∀ g, vA.ownBlock = some g → g ≠ wA.heap.size := fun g hg => by have := (World.ownsRow.lt hwA g hg).2; omega
              have HWAB := Lib.hid hWAB
              have HsAB := Lib.hid hsAB
              clear hWAB hzAB hsAB
              intro KAB hKAB
              go_simp
              rw [HWAB.out]
              refine hKAB _ _ ⟨fun _ => hbAB, ?_⟩
              refine anyS_two 9 12 rfl rfl (by kernel_rfl) rfl rfl ?_ ?_
              · skip
                obtain ⟨vABC, wABC, hrABC, hoABC, hgABC⟩ := posts_moreG hAB_A hAB_B hbAB.size (by omega)
                have hbABC : Below Wd.heap.size Wd wABC := hbAB.grown hgABC hbAB.size fun g hg => (World.ownsRow.lt hAB_A g hg).1
                intro KABC hKABC
                refine oper_app _ _ _ rfl _ _ (by rfl) (by rfl) hrABC ?_
                refine hKABC _ _ ⟨fun _ => hbABC, ?_⟩
                refine anyS_one 12 rfl (by kernel_rfl) rfl ?_
                obtain ⟨wABCD, hWABCD⟩ : ∃ x, wABC.alloc (.cells #[.int .i64 2, .string ⟨#[]⟩, .int .i64 0, .string ⟨#[]⟩, .int .i64 (c : Int), .int .i64 2, .string ⟨#[]⟩, .int .i64 0, .string ⟨#[]⟩, .int .i64 (c : Int)] 76) = x := ⟨_, rfl⟩
                have hxABCD : Below wABC.heap.size wABC wABCD := by rw [← hWABCD]; exact (Below.refl _ _).alloc (Nat.le_refl _) _
                have hsABCD : wABCD.heap.size = wABC.heap.size + 1 := by rw [← hWABCD]; simp
                have hzABCD := agF_lit wABC c
                rw [hWABCD] at hzABCD
                have hABCD_D := hzABCD.wider (B' := wABCD.heap.size) (by omega)
                have hbABCD : Below Wd.heap.size Wd wABCD := hbABC.trans (hxABCD.mono hbABC.size)
                have hABCD_C := own_below hoABC hxABCD
                have hdABCD_C : ∀ g, vABC.ownBlock = some g → g ≠ wABC.heap.size := fun g hg => by have := (World.ownsRow.lt hoABC g hg).2; omega
                have HWABCD := Lib.hid hWABCD
                have HsABCD := Lib.hid hsABCD
                clear hWABCD hzABCD hsABCD
                intro KABCD hKABCD
                go_simp
                rw [HWABCD.out]
                refine hKABCD _ _ ⟨fun _ => hbABCD, ?_⟩
                refine anyS_one 13 rfl (by kernel_rfl) rfl ?_
                obtain ⟨vABCDE, wABCDE, hrABCDE, hoABCDE, hgABCDE⟩ := posts_moreG hABCD_C hABCD_D hbABCD.size (by omega)
                have hbABCDE : Below Wd.heap.size Wd wABCDE := hbABCD.grown hgABCDE hbABCD.size fun g hg => (World.ownsRow.lt hABCD_C g hg).1
                intro KABCDE hKABCDE
                refine oper_app _ _ _ rfl _ _ (by rfl) (by rfl) hrABCDE ?_
                refine hKABCDE _ _ ⟨fun _ => hbABCDE, ?_⟩
                have HA := Lib.hid (HT.out _ _ _ _ hoABCDE hbABCDE)
                refine anyS_one 14 rfl (by kernel_rfl) rfl ?_
                intro K14 hK14
                go_simp
                refine hK14 _ _ ⟨fun _ => hbABCDE, ?_⟩
                refine anyS_done (by kernel_rfl) ?_
                go_wp2_with fail
                go_meet
                exact ⟨n + 1 + 2, _, HL.out, HA.out⟩
              · skip
                obtain ⟨wABD, hWABD⟩ : ∃ x, wAB.alloc (.cells #[.int .i64 2, .string ⟨#[]⟩, .int .i64 0, .string ⟨#[]⟩, .int .i64 (c : Int), .int .i64 2, .string ⟨#[]⟩, .int .i64 0, .string ⟨#[]⟩, .int .i64 (c : Int)] 76) = x := ⟨_, rfl⟩
                have hxABD : Below wAB.heap.size wAB wABD := by rw [← hWABD]; exact (Below.refl _ _).alloc (Nat.le_refl _) _
                have hsABD : wABD.heap.size = wAB.heap.size + 1 := by rw [← hWABD]; simp
                have hzABD := agF_lit wAB c
                rw [hWABD] at hzABD
                have hABD_D := hzABD.wider (B' := wABD.heap.size) (by omega)
                have hbABD : Below Wd.heap.size Wd wABD := hbAB.trans (hxABD.mono hbAB.size)
                have hABD_A := own_below hAB_A hxABD
                have hdABD_A : ∀ g, vA.ownBlock = some g → g ≠ wAB.heap.size := fun g hg => by have := (World.ownsRow.lt hAB_A g hg).2; omega
                have hABD_B := (hAB_B.below hxABD).wider hxABD.size
                have HWABD := Lib.hid hWABD
                have HsABD := Lib.hid hsABD
                clear hWABD hzABD hsABD
                intro KABD hKABD
                go_simp
                rw [HWABD.out]
                refine hKABD _ _ ⟨fun _ => hbABD, ?_⟩
                refine anyS_one 9 rfl (by kernel_rfl) rfl ?_
                obtain ⟨vABDC, wABDC, hrABDC, hoABDC, hgABDC⟩ := posts_moreG hABD_A hABD_B hbABD.size (by omega)
                have hbABDC : Below Wd.heap.size Wd wABDC := hbABD.grown hgABDC hbABD.size fun g hg => (World.ownsRow.lt hABD_A g hg).1
                have hABDC_D := (LIn.kept hABD_D (w' := wABDC) fun b hb => hgABDC.block b (by injection hb with hb; subst hb; exact (show wAB.heap.size < wABD.heap.size by have := HsABD.out; omega)) fun e => hdABD_A _ e.symm (by injection hb with hb; exact hb.symm)).wider hgABDC.size
                skip
                intro KABDC hKABDC
                refine oper_app _ _ _ rfl _ _ (by rfl) (by rfl) hrABDC ?_
                refine hKABDC _ _ ⟨fun _ => hbABDC, ?_⟩
                refine anyS_one 13 rfl (by kernel_rfl) rfl ?_
                obtain ⟨vABDCE, wABDCE, hrABDCE, hoABDCE, hgABDCE⟩ := posts_moreG hoABDC hABDC_D hbABDC.size (by omega)
                have hbABDCE : Below Wd.heap.size Wd wABDCE := hbABDC.grown hgABDCE hbABDC.size fun g hg => (World.ownsRow.lt hoABDC g hg).1
                intro KABDCE hKABDCE
                refine oper_app _ _ _ rfl _ _ (by rfl) (by rfl) hrABDCE ?_
                refine hKABDCE _ _ ⟨fun _ => hbABDCE, ?_⟩
                have HA := Lib.hid (HT.out _ _ _ _ hoABDCE hbABDCE)
                refine anyS_one 14 rfl (by kernel_rfl) rfl ?_
                intro K14 hK14
                go_simp
                refine hK14 _ _ ⟨fun _ => hbABDCE, ?_⟩
                refine anyS_done (by kernel_rfl) ?_
                go_wp2_with fail
                go_meet
                exact ⟨n + 1 + 2, _, HL.out, HA.out⟩
            · skip
              obtain ⟨wAD, hWAD⟩ : ∃ x, wA.alloc (.cells #[.int .i64 2, .string ⟨#[]⟩, .int .i64 0, .string ⟨#[]⟩, .int .i64 (c : Int), .int .i64 2, .string ⟨#[]⟩, .int .i64 0, .string ⟨#[]⟩, .int .i64 (c : Int)] 76) = x := ⟨_, rfl⟩
              have hxAD : Below wA.heap.size wA wAD := by rw [← hWAD]; exact (Below.refl _ _).alloc (Nat.le_refl _) _
              have hsAD : wAD.heap.size = wA.heap.size + 1 := by rw [← hWAD]; simp
              have hzAD := agF_lit wA c
              rw [hWAD] at hzAD
              have hAD_D := hzAD.wider (B' := wAD.heap.size) (by omega)
              have hbAD : Below Wd.heap.size Wd wAD := hbA.trans (hxAD.mono hbA.size)
              have hAD_A := own_below hwA hxAD
              have hdAD_A : ∀ g, vA.ownBlock = some g → g ≠ wA.heap.size := fun g hg => by have := (World.ownsRow.lt hwA g hg).2; omega
              have HWAD := Lib.hid hWAD
              have HsAD := Lib.hid hsAD
              clear hWAD hzAD hsAD
              intro KAD hKAD
              go_simp
              rw [HWAD.out]
              refine hKAD _ _ ⟨fun _ => hbAD, ?_⟩
              refine anyS_one 8 rfl (by kernel_rfl) rfl ?_
              obtain ⟨wADB, hWADB⟩ : ∃ x, wAD.alloc (.cells #[.int .i64 1, str pf, .int .i64 pt, str pb, .int .i64 psn] 76) = x := ⟨_, rfl⟩
              have hxADB : Below wAD.heap.size wAD wADB := by rw [← hWADB]; exact (Below.refl _ _).alloc (Nat.le_refl _) _
              have hsADB : wADB.heap.size = wAD.heap.size + 1 := by rw [← hWADB]; simp
              have hzADB := ag_one wAD ⟨1, pf, pt, pb, psn⟩ #[.int .i64 1, str pf, .int .i64 pt, str pb, .int .i64 psn] rfl
              rw [hWADB] at hzADB
              have hADB_B := hzADB.wider (B' := wADB.heap.size) (by omega)
              have hbADB : Below Wd.heap.size Wd wADB := hbAD.trans (hxADB.mono hbAD.size)
              have hADB_A := own_below hAD_A hxADB
              have hdADB_A : ∀ g, vA.ownBlock = some g → g ≠ wAD.heap.size := fun g hg => by have := (World.ownsRow.lt hAD_A g hg).2; omega
              have hADB_D := (hAD_D.below hxADB).wider hxADB.size
              have HWADB := Lib.hid hWADB
              have HsADB := Lib.hid hsADB
              clear hWADB hzADB hsADB
              intro KADB hKADB
              go_simp
              rw [HWADB.out]
              refine hKADB _ _ ⟨fun _ => hbADB, ?_⟩
              refine anyS_one 9 rfl (by kernel_rfl) rfl ?_
              obtain ⟨vADBC, wADBC, hrADBC, hoADBC, hgADBC⟩ := posts_moreG hADB_A hADB_B hbADB.size (by omega)
              have hbADBC : Below Wd.heap.size Wd wADBC := hbADB.grown hgADBC hbADB.size fun g hg => (World.ownsRow.lt hADB_A g hg).1
              have hADBC_D := (LIn.kept hADB_D (w' := wADBC) fun b hb => hgADBC.block b (by injection hb with hb; subst hb; exact (Nat.lt_of_lt_of_le (show wA.heap.size < wAD.heap.size by have := HsAD.out; omega) hxADB.size)) fun e => hdAD_A _ e.symm (by injection hb with hb; exact hb.symm)).wider hgADBC.size
              skip
              intro KADBC hKADBC
              refine oper_app _ _ _ rfl _ _ (by rfl) (by rfl) hrADBC ?_
              refine hKADBC _ _ ⟨fun _ => hbADBC, ?_⟩
              refine anyS_one 13 rfl (by kernel_rfl) rfl ?_
              obtain ⟨vADBCE, wADBCE, hrADBCE, hoADBCE, hgADBCE⟩ := posts_moreG hoADBC hADBC_D hbADBC.size (by omega)
              have hbADBCE : Below Wd.heap.size Wd wADBCE := hbADBC.grown hgADBCE hbADBC.size fun g hg => (World.ownsRow.lt hoADBC g hg).1
              intro KADBCE hKADBCE
              refine oper_app _ _ _ rfl _ _ (by rfl) (by rfl) hrADBCE ?_
              refine hKADBCE _ _ ⟨fun _ => hbADBCE, ?_⟩
              have HA := Lib.hid (HT.out _ _ _ _ hoADBCE hbADBCE)
              refine anyS_one 14 rfl (by kernel_rfl) rfl ?_
              intro K14 hK14
              go_simp
              refine hK14 _ _ ⟨fun _ => hbADBCE, ?_⟩
              refine anyS_done (by kernel_rfl) ?_
              go_wp2_with fail
              go_meet
              exact ⟨n + 1 + 2, _, HL.out, HA.out⟩
          · skip
            obtain ⟨wB, hWB⟩ : ∃ x, Wd.alloc (.cells #[.int .i64 1, str pf, .int .i64 pt, str pb, .int .i64 psn] 76) = x := ⟨_, rfl⟩
            have hxB : Below Wd.heap.size Wd wB := by rw [← hWB]; exact (Below.refl _ _).alloc (Nat.le_refl _) _
            have hsB : wB.heap.size = Wd.heap.size + 1 := by rw [← hWB]; simp
            have hzB := ag_one Wd ⟨1, pf, pt, pb, psn⟩ #[.int .i64 1, str pf, .int .i64 pt, str pb, .int .i64 psn] rfl
            rw [hWB] at hzB
            have hB_B := hzB.wider (B' := wB.heap.size) (by omega)
            have hbB : Below Wd.heap.size Wd wB := hS0.trans (hxB.mono hS0.size)
            have HWB := Lib.hid hWB
            have HsB := Lib.hid hsB
            clear hWB hzB hsB
            intro KB hKB
            go_simp
            rw [HWB.out]
            refine hKB _ _ ⟨fun _ => hbB, ?_⟩
            refine anyS_two 1 12 rfl rfl (by kernel_rfl) rfl rfl ?_ ?_
            · skip
              obtain ⟨vBA, wBA, hrBA, hoBA, hxBA⟩ := posts_copy (((Hps.out).below hbB).wider hbB.size) (Nat.le_refl _) (by omega)
              have hbBA : Below Wd.heap.size Wd wBA := hbB.trans (hxBA.mono hbB.size)
              have hwBA := own_le hoBA hbB.size
              have hlBA : ∀ g, vBA.ownBlock = some g → wB.heap.size ≤ g := fun g hg => (World.ownsRow.lt hoBA g hg).1
              have hBA_B := (hB_B.below hxBA).wider hxBA.size
              have hdBA_B : ∀ g, vBA.ownBlock = some g → g ≠ Wd.heap.size := fun g hg => by have := hlBA g hg; have := (show Wd.heap.size < wB.heap.size by have := HsB.out; omega); omega
              intro KBA hKBA
              refine oper_app _ _ _ rfl _ _ (by rfl) (by rfl) hrBA ?_
              refine hKBA _ _ ⟨fun _ => hbBA, ?_⟩
              refine anyS_two 9 12 rfl rfl (by kernel_rfl) rfl rfl ?_ ?_
              · skip
                obtain ⟨vBAC, wBAC, hrBAC, hoBAC, hgBAC⟩ := posts_moreG hwBA hBA_B hbBA.size (by omega)
                have hbBAC : Below Wd.heap.size Wd wBAC := hbBA.grown hgBAC hbBA.size fun g hg => (World.ownsRow.lt hwBA g hg).1
                intro KBAC hKBAC
                refine oper_app _ _ _ rfl _ _ (by rfl) (by rfl) hrBAC ?_
                refine hKBAC _ _ ⟨fun _ => hbBAC, ?_⟩
                refine anyS_one 12 rfl (by kernel_rfl) rfl ?_
                obtain ⟨wBACD, hWBACD⟩ : ∃ x, wBAC.alloc (.cells #[.int .i64 2, .string ⟨#[]⟩, .int .i64 0, .string ⟨#[]⟩, .int .i64 (c : Int), .int .i64 2, .string ⟨#[]⟩, .int .i64 0, .string ⟨#[]⟩, .int .i64 (c : Int)] 76) = x := ⟨_, rfl⟩
                have hxBACD : Below wBAC.heap.size wBAC wBACD := by rw [← hWBACD]; exact (Below.refl _ _).alloc (Nat.le_refl _) _
                have hsBACD : wBACD.heap.size = wBAC.heap.size + 1 := by rw [← hWBACD]; simp
                have hzBACD := agF_lit wBAC c
                rw [hWBACD] at hzBACD
                have hBACD_D := hzBACD.wider (B' := wBACD.heap.size) (by omega)
                have hbBACD : Below Wd.heap.size Wd wBACD := hbBAC.trans (hxBACD.mono hbBAC.size)
                have hBACD_C := own_below hoBAC hxBACD
                have hdBACD_C : ∀ g, vBAC.ownBlock = some g → g ≠ wBAC.heap.size := fun g hg => by have := (World.ownsRow.lt hoBAC g hg).2; omega
                have HWBACD := Lib.hid hWBACD
                have HsBACD := Lib.hid hsBACD
                clear hWBACD hzBACD hsBACD
                intro KBACD hKBACD
                go_simp
                rw [HWBACD.out]
                refine hKBACD _ _ ⟨fun _ => hbBACD, ?_⟩
                refine anyS_one 13 rfl (by kernel_rfl) rfl ?_
                obtain ⟨vBACDE, wBACDE, hrBACDE, hoBACDE, hgBACDE⟩ := posts_moreG hBACD_C hBACD_D hbBACD.size (by omega)
                have hbBACDE : Below Wd.heap.size Wd wBACDE := hbBACD.grown hgBACDE hbBACD.size fun g hg => (World.ownsRow.lt hBACD_C g hg).1
                intro KBACDE hKBACDE
                refine oper_app _ _ _ rfl _ _ (by rfl) (by rfl) hrBACDE ?_
                refine hKBACDE _ _ ⟨fun _ => hbBACDE, ?_⟩
                have HA := Lib.hid (HT.out _ _ _ _ hoBACDE hbBACDE)
                refine anyS_one 14 rfl (by kernel_rfl) rfl ?_
                intro K14 hK14
                go_simp
                refine hK14 _ _ ⟨fun _ => hbBACDE, ?_⟩
                refine anyS_done (by kernel_rfl) ?_
                go_wp2_with fail
                go_meet
                exact ⟨n + 1 + 2, _, HL.out, HA.out⟩
              · skip
                obtain ⟨wBAD, hWBAD⟩ : ∃ x, wBA.alloc (.cells #[.int .i64 2, .string ⟨#[]⟩, .int .i64 0, .string ⟨#[]⟩, .int .i64 (c : Int), .int .i64 2, .string ⟨#[]⟩, .int .i64 0, .string ⟨#[]⟩, .int .i64 (c : Int)] 76) = x := ⟨_, rfl⟩
                have hxBAD : Below wBA.heap.size wBA wBAD := by rw [← hWBAD]; exact (Below.refl _ _).alloc (Nat.le_refl _) _
                have hsBAD : wBAD.heap.size = wBA.heap.size + 1 := by rw [← hWBAD]; simp
                have hzBAD := agF_lit wBA c
                rw [hWBAD] at hzBAD
                have hBAD_D := hzBAD.wider (B' := wBAD.heap.size) (by omega)
                have hbBAD : Below Wd.heap.size Wd wBAD := hbBA.trans (hxBAD.mono hbBA.size)
                have hBAD_B := (hBA_B.below hxBAD).wider hxBAD.size
                have hBAD_A := own_below hwBA hxBAD
                have hdBAD_A : ∀ g, vBA.ownBlock = some g → g ≠ wBA.heap.size := fun g hg => by have := (World.ownsRow.lt hwBA g hg).2; omega
                have HWBAD := Lib.hid hWBAD
                have HsBAD := Lib.hid hsBAD
                clear hWBAD hzBAD hsBAD
                intro KBAD hKBAD
                go_simp
                rw [HWBAD.out]
                refine hKBAD _ _ ⟨fun _ => hbBAD, ?_⟩
                refine anyS_one 9 rfl (by kernel_rfl) rfl ?_
                obtain ⟨vBADC, wBADC, hrBADC, hoBADC, hgBADC⟩ := posts_moreG hBAD_A hBAD_B hbBAD.size (by omega)
                have hbBADC : Below Wd.heap.size Wd wBADC := hbBAD.grown hgBADC hbBAD.size fun g hg => (World.ownsRow.lt hBAD_A g hg).1
                have hBADC_D := (LIn.kept hBAD_D (w' := wBADC) fun b hb => hgBADC.block b (by injection hb with hb; subst hb; exact (show wBA.heap.size < wBAD.heap.size by have := HsBAD.out; omega)) fun e => hdBAD_A _ e.symm (by injection hb with hb; exact hb.symm)).wider hgBADC.size
                skip
                intro KBADC hKBADC
                refine oper_app _ _ _ rfl _ _ (by rfl) (by rfl) hrBADC ?_
                refine hKBADC _ _ ⟨fun _ => hbBADC, ?_⟩
                refine anyS_one 13 rfl (by kernel_rfl) rfl ?_
                obtain ⟨vBADCE, wBADCE, hrBADCE, hoBADCE, hgBADCE⟩ := posts_moreG hoBADC hBADC_D hbBADC.size (by omega)
                have hbBADCE : Below Wd.heap.size Wd wBADCE := hbBADC.grown hgBADCE hbBADC.size fun g hg => (World.ownsRow.lt hoBADC g hg).1
                intro KBADCE hKBADCE
                refine oper_app _ _ _ rfl _ _ (by rfl) (by rfl) hrBADCE ?_
                refine hKBADCE _ _ ⟨fun _ => hbBADCE, ?_⟩
                have HA := Lib.hid (HT.out _ _ _ _ hoBADCE hbBADCE)
                refine anyS_one 14 rfl (by kernel_rfl) rfl ?_
                intro K14 hK14
                go_simp
                refine hK14 _ _ ⟨fun _ => hbBADCE, ?_⟩
                refine anyS_done (by kernel_rfl) ?_
                go_wp2_with fail
                go_meet
                exact ⟨n + 1 + 2, _, HL.out, HA.out⟩
            · skip
              obtain ⟨wBD, hWBD⟩ : ∃ x, wB.alloc (.cells #[.int .i64 2, .string ⟨#[]⟩, .int .i64 0, .string ⟨#[]⟩, .int .i64 (c : Int), .int .i64 2, .string ⟨#[]⟩, .int .i64 0, .string ⟨#[]⟩, .int .i64 (c : Int)] 76) = x := ⟨_, rfl⟩
              have hxBD : Below wB.heap.size wB wBD := by rw [← hWBD]; exact (Below.refl _ _).alloc (Nat.le_refl _) _
              have hsBD : wBD.heap.size = wB.heap.size + 1 := by rw [← hWBD]; simp
              have hzBD := agF_lit wB c
              rw [hWBD] at hzBD
              have hBD_D := hzBD.wider (B' := wBD.heap.size) (by omega)
              have hbBD : Below Wd.heap.size Wd wBD := hbB.trans (hxBD.mono hbB.size)
              have hBD_B := (hB_B.below hxBD).wider hxBD.size
              have HWBD := Lib.hid hWBD
              have HsBD := Lib.hid hsBD
              clear hWBD hzBD hsBD
              intro KBD hKBD
              go_simp
              rw [HWBD.out]
              refine hKBD _ _ ⟨fun _ => hbBD, ?_⟩
              refine anyS_one 1 rfl (by kernel_rfl) rfl ?_
              obtain ⟨vBDA, wBDA, hrBDA, hoBDA, hxBDA⟩ := posts_copy (((Hps.out).below hbBD).wider hbBD.size) (Nat.le_refl _) (by omega)
              have hbBDA : Below Wd.heap.size Wd wBDA := hbBD.trans (hxBDA.mono hbBD.size)
              have hwBDA := own_le hoBDA hbBD.size
              have hlBDA : ∀ g, vBDA.ownBlock = some g → wBD.heap.size ≤ g := fun g hg => (World.ownsRow.lt hoBDA g hg).1
              have hBDA_B := (hBD_B.below hxBDA).wider hxBDA.size
              have hdBDA_B : ∀ g, vBDA.ownBlock = some g → g ≠ Wd.heap.size := fun g hg => by have := hlBDA g hg; have := (Nat.lt_of_lt_of_le (show Wd.heap.size < wB.heap.size by have := HsB.out; omega) hxBD.size); omega
              have hBDA_D := (hBD_D.below hxBDA).wider hxBDA.size
              have hdBDA_D : ∀ g, vBDA.ownBlock = some g → g ≠ wB.heap.size := fun g hg => by have := hlBDA g hg; have := (show wB.heap.size < wBD.heap.size by have := HsBD.out; omega); omega
              intro KBDA hKBDA
              refine oper_app _ _ _ rfl _ _ (by rfl) (by rfl) hrBDA ?_
              refine hKBDA _ _ ⟨fun _ => hbBDA, ?_⟩
              refine anyS_one 9 rfl (by kernel_rfl) rfl ?_
              obtain ⟨vBDAC, wBDAC, hrBDAC, hoBDAC, hgBDAC⟩ := posts_moreG hwBDA hBDA_B hbBDA.size (by omega)
              have hbBDAC : Below Wd.heap.size Wd wBDAC := hbBDA.grown hgBDAC hbBDA.size fun g hg => (World.ownsRow.lt hwBDA g hg).1
              have hBDAC_D := (LIn.kept hBDA_D (w' := wBDAC) fun b hb => hgBDAC.block b (by injection hb with hb; subst hb; exact (Nat.lt_of_lt_of_le (show wB.heap.size < wBD.heap.size by have := HsBD.out; omega) hxBDA.size)) fun e => hdBDA_D _ e.symm (by injection hb with hb; exact hb.symm)).wider hgBDAC.size
              skip
              intro KBDAC hKBDAC
              refine oper_app _ _ _ rfl _ _ (by rfl) (by rfl) hrBDAC ?_
              refine hKBDAC _ _ ⟨fun _ => hbBDAC, ?_⟩
              refine anyS_one 13 rfl (by kernel_rfl) rfl ?_
              obtain ⟨vBDACE, wBDACE, hrBDACE, hoBDACE, hgBDACE⟩ := posts_moreG hoBDAC hBDAC_D hbBDAC.size (by omega)
              have hbBDACE : Below Wd.heap.size Wd wBDACE := hbBDAC.grown hgBDACE hbBDAC.size fun g hg => (World.ownsRow.lt hoBDAC g hg).1
              intro KBDACE hKBDACE
              refine oper_app _ _ _ rfl _ _ (by rfl) (by rfl) hrBDACE ?_
              refine hKBDACE _ _ ⟨fun _ => hbBDACE, ?_⟩
              have HA := Lib.hid (HT.out _ _ _ _ hoBDACE hbBDACE)
              refine anyS_one 14 rfl (by kernel_rfl) rfl ?_
              intro K14 hK14
              go_simp
              refine hK14 _ _ ⟨fun _ => hbBDACE, ?_⟩
              refine anyS_done (by kernel_rfl) ?_
              go_wp2_with fail
              go_meet
              exact ⟨n + 1 + 2, _, HL.out, HA.out⟩
          · skip
            obtain ⟨wD, hWD⟩ : ∃ x, Wd.alloc (.cells #[.int .i64 2, .string ⟨#[]⟩, .int .i64 0, .string ⟨#[]⟩, .int .i64 (c : Int), .int .i64 2, .string ⟨#[]⟩, .int .i64 0, .string ⟨#[]⟩, .int .i64 (c : Int)] 76) = x := ⟨_, rfl⟩
            have hxD : Below Wd.heap.size Wd wD := by rw [← hWD]; exact (Below.refl _ _).alloc (Nat.le_refl _) _
            have hsD : wD.heap.size = Wd.heap.size + 1 := by rw [← hWD]; simp
            have hzD := agF_lit Wd c
            rw [hWD] at hzD
            have hD_D := hzD.wider (B' := wD.heap.size) (by omega)
            have hbD : Below Wd.heap.size Wd wD := hS0.trans (hxD.mono hS0.size)
            have HWD := Lib.hid hWD
            have HsD := Lib.hid hsD
            clear hWD hzD hsD
            intro KD hKD
            go_simp
            rw [HWD.out]
            refine hKD _ _ ⟨fun _ => hbD, ?_⟩
            refine anyS_two 1 8 rfl rfl (by kernel_rfl) rfl rfl ?_ ?_
            · skip
              obtain ⟨vDA, wDA, hrDA, hoDA, hxDA⟩ := posts_copy (((Hps.out).below hbD).wider hbD.size) (Nat.le_refl _) (by omega)
              have hbDA : Below Wd.heap.size Wd wDA := hbD.trans (hxDA.mono hbD.size)
              have hwDA := own_le hoDA hbD.size
              have hlDA : ∀ g, vDA.ownBlock = some g → wD.heap.size ≤ g := fun g hg => (World.ownsRow.lt hoDA g hg).1
              have hDA_D := (hD_D.below hxDA).wider hxDA.size
              have hdDA_D : ∀ g, vDA.ownBlock = some g → g ≠ Wd.heap.size := fun g hg => by have := hlDA g hg; have := (show Wd.heap.size < wD.heap.size by have := HsD.out; omega); omega
              intro KDA hKDA
              refine oper_app _ _ _ rfl _ _ (by rfl) (by rfl) hrDA ?_
              refine hKDA _ _ ⟨fun _ => hbDA, ?_⟩
              refine anyS_one 8 rfl (by kernel_rfl) rfl ?_
              obtain ⟨wDAB, hWDAB⟩ : ∃ x, wDA.alloc (.cells #[.int .i64 1, str pf, .int .i64 pt, str pb, .int .i64 psn] 76) = x := ⟨_, rfl⟩
              have hxDAB : Below wDA.heap.size wDA wDAB := by rw [← hWDAB]; exact (Below.refl _ _).alloc (Nat.le_refl _) _
              have hsDAB : wDAB.heap.size = wDA.heap.size + 1 := by rw [← hWDAB]; simp
              have hzDAB := ag_one wDA ⟨1, pf, pt, pb, psn⟩ #[.int .i64 1, str pf, .int .i64 pt, str pb, .int .i64 psn] rfl
              rw [hWDAB] at hzDAB
              have hDAB_B := hzDAB.wider (B' := wDAB.heap.size) (by omega)
              have hbDAB : Below Wd.heap.size Wd wDAB := hbDA.trans (hxDAB.mono hbDA.size)
              have hDAB_D := (hDA_D.below hxDAB).wider hxDAB.size
              have hDAB_A := own_below hwDA hxDAB
              have hdDAB_A : ∀ g, vDA.ownBlock = some g → g ≠ wDA.heap.size := fun g hg => by have := (World.ownsRow.lt hwDA g hg).2; omega
              have HWDAB := Lib.hid hWDAB
              have HsDAB := Lib.hid hsDAB
              clear hWDAB hzDAB hsDAB
              intro KDAB hKDAB
              go_simp
              rw [HWDAB.out]
              refine hKDAB _ _ ⟨fun _ => hbDAB, ?_⟩
              refine anyS_one 9 rfl (by kernel_rfl) rfl ?_
              obtain ⟨vDABC, wDABC, hrDABC, hoDABC, hgDABC⟩ := posts_moreG hDAB_A hDAB_B hbDAB.size (by omega)
              have hbDABC : Below Wd.heap.size Wd wDABC := hbDAB.grown hgDABC hbDAB.size fun g hg => (World.ownsRow.lt hDAB_A g hg).1
              have hDABC_D := (LIn.kept hDAB_D (w' := wDABC) fun b hb => hgDABC.block b (by injection hb with hb; subst hb; exact (Nat.lt_of_lt_of_le (Nat.lt_of_lt_of_le (show Wd.heap.size < wD.heap.size by have := HsD.out; omega) hxDA.size) hxDAB.size)) fun e => hdDA_D _ e.symm (by injection hb with hb; exact hb.symm)).wider hgDABC.size
              skip
              intro KDABC hKDABC
              refine oper_app _ _ _ rfl _ _ (by rfl) (by rfl) hrDABC ?_
              refine hKDABC _ _ ⟨fun _ => hbDABC, ?_⟩
              refine anyS_one 13 rfl (by kernel_rfl) rfl ?_
              obtain ⟨vDABCE, wDABCE, hrDABCE, hoDABCE, hgDABCE⟩ := posts_moreG hoDABC hDABC_D hbDABC.size (by omega)
              have hbDABCE : Below Wd.heap.size Wd wDABCE := hbDABC.grown hgDABCE hbDABC.size fun g hg => (World.ownsRow.lt hoDABC g hg).1
              intro KDABCE hKDABCE
              refine oper_app _ _ _ rfl _ _ (by rfl) (by rfl) hrDABCE ?_
              refine hKDABCE _ _ ⟨fun _ => hbDABCE, ?_⟩
              have HA := Lib.hid (HT.out _ _ _ _ hoDABCE hbDABCE)
              refine anyS_one 14 rfl (by kernel_rfl) rfl ?_
              intro K14 hK14
              go_simp
              refine hK14 _ _ ⟨fun _ => hbDABCE, ?_⟩
              refine anyS_done (by kernel_rfl) ?_
              go_wp2_with fail
              go_meet
              exact ⟨n + 1 + 2, _, HL.out, HA.out⟩
            · skip
              obtain ⟨wDB, hWDB⟩ : ∃ x, wD.alloc (.cells #[.int .i64 1, str pf, .int .i64 pt, str pb, .int .i64 psn] 76) = x := ⟨_, rfl⟩
              have hxDB : Below wD.heap.size wD wDB := by rw [← hWDB]; exact (Below.refl _ _).alloc (Nat.le_refl _) _
              have hsDB : wDB.heap.size = wD.heap.size + 1 := by rw [← hWDB]; simp
              have hzDB := ag_one wD ⟨1, pf, pt, pb, psn⟩ #[.int .i64 1, str pf, .int .i64 pt, str pb, .int .i64 psn] rfl
              rw [hWDB] at hzDB
              have hDB_B := hzDB.wider (B' := wDB.heap.size) (by omega)
              have hbDB : Below Wd.heap.size Wd wDB := hbD.trans (hxDB.mono hbD.size)
              have hDB_D := (hD_D.below hxDB).wider hxDB.size
              have HWDB := Lib.hid hWDB
              have HsDB := Lib.hid hsDB
              clear hWDB hzDB hsDB
              intro KDB hKDB
              go_simp
              rw [HWDB.out]
              refine hKDB _ _ ⟨fun _ => hbDB, ?_⟩
              refine anyS_one 1 rfl (by kernel_rfl) rfl ?_
              obtain ⟨vDBA, wDBA, hrDBA, hoDBA, hxDBA⟩ := posts_copy (((Hps.out).below hbDB).wider hbDB.size) (Nat.le_refl _) (by omega)
              have hbDBA : Below Wd.heap.size Wd wDBA := hbDB.trans (hxDBA.mono hbDB.size)
              have hwDBA := own_le hoDBA hbDB.size
              have hlDBA : ∀ g, vDBA.ownBlock = some g → wDB.heap.size ≤ g := fun g hg => (World.ownsRow.lt hoDBA g hg).1
              have hDBA_D := (hDB_D.below hxDBA).wider hxDBA.size
              have hdDBA_D : ∀ g, vDBA.ownBlock = some g → g ≠ Wd.heap.size := fun g hg => by have := hlDBA g hg; have := (Nat.lt_of_lt_of_le (show Wd.heap.size < wD.heap.size by have := HsD.out; omega) hxDB.size); omega
              have hDBA_B := (hDB_B.below hxDBA).wider hxDBA.size
              have hdDBA_B : ∀ g, vDBA.ownBlock = some g → g ≠ wD.heap.size := fun g hg => by have := hlDBA g hg; have := (show wD.heap.size < wDB.heap.size by have := HsDB.out; omega); omega
              intro KDBA hKDBA
              refine oper_app _ _ _ rfl _ _ (by rfl) (by rfl) hrDBA ?_
              refine hKDBA _ _ ⟨fun _ => hbDBA, ?_⟩
              refine anyS_one 9 rfl (by kernel_rfl) rfl ?_
              obtain ⟨vDBAC, wDBAC, hrDBAC, hoDBAC, hgDBAC⟩ := posts_moreG hwDBA hDBA_B hbDBA.size (by omega)
              have hbDBAC : Below Wd.heap.size Wd wDBAC := hbDBA.grown hgDBAC hbDBA.size fun g hg => (World.ownsRow.lt hwDBA g hg).1
              have hDBAC_D := (LIn.kept hDBA_D (w' := wDBAC) fun b hb => hgDBAC.block b (by injection hb with hb; subst hb; exact (Nat.lt_of_lt_of_le (Nat.lt_of_lt_of_le (show Wd.heap.size < wD.heap.size by have := HsD.out; omega) hxDB.size) hxDBA.size)) fun e => hdDBA_D _ e.symm (by injection hb with hb; exact hb.symm)).wider hgDBAC.size
              skip
              intro KDBAC hKDBAC
              refine oper_app _ _ _ rfl _ _ (by rfl) (by rfl) hrDBAC ?_
              refine hKDBAC _ _ ⟨fun _ => hbDBAC, ?_⟩
              refine anyS_one 13 rfl (by kernel_rfl) rfl ?_
              obtain ⟨vDBACE, wDBACE, hrDBACE, hoDBACE, hgDBACE⟩ := posts_moreG hoDBAC hDBAC_D hbDBAC.size (by omega)
              have hbDBACE : Below Wd.heap.size Wd wDBACE := hbDBAC.grown hgDBACE hbDBAC.size fun g hg => (World.ownsRow.lt hoDBAC g hg).1
              intro KDBACE hKDBACE
              refine oper_app _ _ _ rfl _ _ (by rfl) (by rfl) hrDBACE ?_
              refine hKDBACE _ _ ⟨fun _ => hbDBACE, ?_⟩
              have HA := Lib.hid (HT.out _ _ _ _ hoDBACE hbDBACE)
              refine anyS_one 14 rfl (by kernel_rfl) rfl ?_
              intro K14 hK14
              go_simp
              refine hK14 _ _ ⟨fun _ => hbDBACE, ?_⟩
              refine anyS_done (by kernel_rfl) ?_
              go_wp2_with fail
              go_meet
              exact ⟨n + 1 + 2, _, HL.out, HA.out⟩
      case rest =>
        obtain ⟨k, l, hL, ho9, hb9⟩ := hcut
        obtain ⟨l1, l2, l3, l4, l5, l6⟩ := hL
        obtain ⟨k1, hk1⟩ : ∃ k1, k = k1 + 1 := ⟨k - 1, by omega⟩
        obtain ⟨k2, hk2⟩ : ∃ k2, k = k2 + 2 := ⟨k - 2, by omega⟩
        rw [show k - 1 = k1 by omega] at l5
        rw [show k - 2 = k2 by omega] at l6
        have HK1 := Lib.hid hk1
        have HK2 := Lib.hid hk2
        clear hk1 hk2
        rw [← l1] at ho9
        obtain ⟨A9, c9, hv9, hin9⟩ := LIn.own ptL_len ho9
        subst hv9
        rw [l1] at hin9 ⊢
        have HP9 := Lib.hid (posted_any A9 k c9 _ l wc hin9 (Nat.le_refl _) (by omega) (Hg.out.below (HBw5.out.trans (hb9.mono HBw5.out.size))) l4)
        unfold PdPost at HP9
        rw [l1] at HP9
        have hX : (gotsB bs0 l).1.length = k := by rw [gotsB_len, l1]
        generalize (gotsB bs0 l).1 = X at *
        have HX := Lib.hid hX
        have L5 := Lib.hid l5
        have L6 := Lib.hid l6
        have Hb9 := Lib.hid hb9
        clear hX l5 l6 hb9 ho9 hin9 l4 l1
        go_wp2_with fail
        refine HP9.out.mono ?_
        rintro e w10 ⟨A10, c10, rfl, hin10, hb10⟩
        have Hin10 := Lib.hid hin10
        have Hb10 := Lib.hid (Hb9.out.trans (hb10.mono Hb9.out.size))
        clear hin10 hb10 HP9 Hb9
        go_upto_region 11 with (fail)
        go_cut [13, 14] from 89 to 97 (fun s13 s14 wx => ∃ A c', s13 = .slice A (n + 1) c' ∧ s14 = .bool true ∧ GsIn wx wx.heap.size A (n + 1) c' (gotsB bs0 (ps ++ [ftC c])).1 ∧ Below w10.heap.size w10 wx)
        case first =>
          have HlY := Lib.hid (show (ps ++ [ftC c]).length = n + 1 by rw [List.length_append, Hn.out]; rfl)
          have HokY := Lib.hid (HokG.out c ps Hok.out)
          obtain ⟨Wd, hWd⟩ : ∃ Wd, w10.drew = Wd := ⟨_, rfl⟩
          have hbd : Below w10.heap.size w10 Wd := by rw [← hWd]; exact below_drewN (Below.refl _ _) 1
          have hbs := Hb10.out.size
          have hds := hbd.size
          have hb5d := Hb10.out.trans (hbd.mono hbs)
          have HF : Hid (∀ w', Below Wd.heap.size Wd w' → w'.cell? ⟨g9, 0, none⟩ = some (.int .i64 2) ∧ w'.cell? ⟨g9, 1, none⟩ = some (.string ⟨#[]⟩) ∧ w'.cell? ⟨g9, 2, none⟩ = some (.int .i64 0) ∧ w'.cell? ⟨g9, 3, none⟩ = some (.string ⟨#[]⟩) ∧ w'.cell? ⟨g9, 4, none⟩ = some (.int .i64 (c : Int))) := Lib.hid fun w' hw' => by
            have hB := (HB5.out.below hb5d (by omega)).below hw' (by omega)
            exact ⟨hB.cell 0, hB.cell 1, hB.cell 2, hB.cell 3, hB.cell 4⟩
          have HT : Hid (∀ wx, Below Wd.heap.size Wd wx → Below w10.heap.size w10 wx) := Lib.hid fun wx h => hbd.trans (h.mono hds)
          have HgW : Hid (∀ wx, Below Wd.heap.size Wd wx → Gl wx) := Lib.hid fun wx h => Hg.out.below ((HBw5.out.trans (hb5d.mono HBw5.out.size)).trans (h.mono (by have := HBw5.out.size; omega)))
          have Hps := Lib.hid ((Hin15.out.below hb5d).wider (show W5.heap.size ≤ Wd.heap.size by omega))
          have hS0 : Below Wd.heap.size Wd Wd := Below.refl _ _
          have HWd := Lib.hid hWd
          clear hb5d hbd hWd hds hbs
          refine region_S (fun w' => Below Wd.heap.size Wd w') [] (by kernel_rfl) ?_
          rw [HWd.out]
          refine anyS_take 0 (v := .slice A1 n c1) rfl (by kernel_rfl) (by kernel_rfl) (by kernel_rfl) (by kernel_rfl) (fun _ _ _ h => h) (.inl ⟨by kernel_rfl, fun w' hS' => by kernel_rfl⟩) hS0 ?_
          refine anyS_take 2 (v := .agg #[.int .i64 2, .string ⟨#[]⟩, .int .i64 0, .string ⟨#[]⟩, .int .i64 (c : Int)]) rfl (by kernel_rfl) (by kernel_rfl) (by kernel_rfl) (by kernel_rfl) (fun _ _ _ h => h) (.inl ⟨by kernel_rfl, fun w' hS' => by obtain ⟨y0, y1, y2, y3, y4⟩ := HF.out w' hS'; go_simp⟩) hS0 ?_
          go_simp
          refine anyS_two 1 3 rfl rfl (by kernel_rfl) rfl rfl ?_ ?_
          · skip
            obtain ⟨vA, wA, hrA, hoA, hxA⟩ := posts_copy (((Hps.out).below hS0).wider hS0.size) (Nat.le_refl _) (by omega)
            have hbA : Below Wd.heap.size Wd wA := hS0.trans (hxA.mono hS0.size)
            have hwA := own_le hoA hS0.size
            have hlA : ∀ g, vA.ownBlock = some g → Wd.heap.size ≤ g := fun g hg => (World.ownsRow.lt hoA g hg).1
            intro KA hKA
            refine oper_app _ _ _ rfl _ _ (by rfl) (by rfl) hrA ?_
            refine hKA _ _ ⟨fun _ => hbA, ?_⟩
            refine anyS_one 3 rfl (by kernel_rfl) rfl ?_
            obtain ⟨wAB, hWAB⟩ : ∃ x, wA.alloc (.cells #[.int .i64 2, .string ⟨#[]⟩, .int .i64 0, .string ⟨#[]⟩, .int .i64 (c : Int)] 76) = x := ⟨_, rfl⟩
            have hxAB : Below wA.heap.size wA wAB := by rw [← hWAB]; exact (Below.refl _ _).alloc (Nat.le_refl _) _
            have hsAB : wAB.heap.size = wA.heap.size + 1 := by rw [← hWAB]; simp
            have hzAB := ag_one wA (ftC c) #[.int .i64 2, .string ⟨#[]⟩, .int .i64 0, .string ⟨#[]⟩, .int .i64 (c : Int)] rfl
            rw [hWAB] at hzAB
            have hAB_B := hzAB.wider (B' := wAB.heap.size) (by omega)
            have hbAB : Below Wd.heap.size Wd wAB := hbA.trans (hxAB.mono hbA.size)
            have hAB_A := own_below hwA hxAB
            have hdAB_A : ∀ g, vA.ownBlock = some g → g ≠ wA.heap.size := fun g hg => by have := (World.ownsRow.lt hwA g hg).2; omega
            have HWAB := Lib.hid hWAB
            have HsAB := Lib.hid hsAB
            clear hWAB hzAB hsAB
            intro KAB hKAB
            go_simp
            rw [HWAB.out]
            refine hKAB _ _ ⟨fun _ => hbAB, ?_⟩
            refine anyS_one 4 rfl (by kernel_rfl) rfl ?_
            obtain ⟨vABC, wABC, hrABC, hoABC, hgABC⟩ := posts_moreG hAB_A hAB_B hbAB.size (by omega)
            have hbABC : Below Wd.heap.size Wd wABC := hbAB.grown hgABC hbAB.size fun g hg => (World.ownsRow.lt hAB_A g hg).1
            intro KABC hKABC
            refine oper_app _ _ _ rfl _ _ (by rfl) (by rfl) hrABC ?_
            refine hKABC _ _ ⟨fun _ => hbABC, ?_⟩
            obtain ⟨Ay, cy, hvy, hiny⟩ := LIn.own ptL_len (by rw [HlY.out]; exact hoABC : wABC.ownsRow _ _ 5 _ (ps ++ [ftC c]).length _)
            rw [HlY.out] at hvy hiny
            subst hvy
            have HPy := posted_any Ay (n + 1) cy _ (ps ++ [ftC c]) wABC hiny (Nat.le_refl _) (by omega) (HgW.out _ hbABC) HokY.out
            unfold PdPost at HPy
            rw [HlY.out] at HPy
            have HPy := Lib.hid HPy
            clear hiny
            refine anyS_one 5 rfl (by kernel_rfl) rfl ?_
            intro K5 hK5
            go_simp
            refine HPy.out.mono ?_
            rintro e wz ⟨Az, cz, rfl, hinz, hbz⟩
            have hbW := hbABC.trans (hbz.mono hbABC.size)
            have HA := Lib.hid (show GsIn wz wz.heap.size Az (n + 1) cz (gotsB bs0 (ps ++ [ftC c])).1 from hinz)
            have HBz := Lib.hid (HT.out _ hbW)
            refine hK5 _ _ ⟨fun _ => hbW, ?_⟩
            refine anyS_take 6 (v := .tuple #[.slice Az (n + 1) cz, .bool true]) rfl (by kernel_rfl) (by kernel_rfl) (by kernel_rfl) (by kernel_rfl) (fun _ _ _ h => h) (.inl ⟨by kernel_rfl, fun w' hS' => by first | kernel_rfl | go_simp⟩) hbW ?_
            refine anyS_take 7 (v := .slice Az (n + 1) cz) rfl (by kernel_rfl) (by kernel_rfl) (by kernel_rfl) (by kernel_rfl) (fun _ _ _ h => h) (.inl ⟨by kernel_rfl, fun w' hS' => by first | kernel_rfl | go_simp⟩) hbW ?_
            refine anyS_take 8 (v := .bool true) rfl (by kernel_rfl) (by kernel_rfl) (by kernel_rfl) (by kernel_rfl) (fun _ _ _ h => h) (.inl ⟨by kernel_rfl, fun w' hS' => by first | kernel_rfl | go_simp⟩) hbW ?_
            refine anyS_one 9 rfl (by kernel_rfl) rfl ?_
            intro K9 hK9
            go_simp
            refine hK9 _ _ ⟨fun _ => hbW, ?_⟩
            refine anyS_one 10 rfl (by kernel_rfl) rfl ?_
            intro K10 hK10
            go_simp
            refine hK10 _ _ ⟨fun _ => hbW, ?_⟩
            refine anyS_done (by kernel_rfl) ?_
            go_wp2_with fail
            go_meet
            exact ⟨Az, cz, rfl, rfl, HA.out, HBz.out⟩
          · skip
            obtain ⟨wB, hWB⟩ : ∃ x, Wd.alloc (.cells #[.int .i64 2, .string ⟨#[]⟩, .int .i64 0, .string ⟨#[]⟩, .int .i64 (c : Int)] 76) = x := ⟨_, rfl⟩
            have hxB : Below Wd.heap.size Wd wB := by rw [← hWB]; exact (Below.refl _ _).alloc (Nat.le_refl _) _
            have hsB : wB.heap.size = Wd.heap.size + 1 := by rw [← hWB]; simp
            have hzB := ag_one Wd (ftC c) #[.int .i64 2, .string ⟨#[]⟩, .int .i64 0, .string ⟨#[]⟩, .int .i64 (c : Int)] rfl
            rw [hWB] at hzB
            have hB_B := hzB.wider (B' := wB.heap.size) (by omega)
            have hbB : Below Wd.heap.size Wd wB := hS0.trans (hxB.mono hS0.size)
            have HWB := Lib.hid hWB
            have HsB := Lib.hid hsB
            clear hWB hzB hsB
            intro KB hKB
            go_simp
            rw [HWB.out]
            refine hKB _ _ ⟨fun _ => hbB, ?_⟩
            refine anyS_one 1 rfl (by kernel_rfl) rfl ?_
            obtain ⟨vBA, wBA, hrBA, hoBA, hxBA⟩ := posts_copy (((Hps.out).below hbB).wider hbB.size) (Nat.le_refl _) (by omega)
            have hbBA : Below Wd.heap.size Wd wBA := hbB.trans (hxBA.mono hbB.size)
            have hwBA := own_le hoBA hbB.size
            have hlBA : ∀ g, vBA.ownBlock = some g → wB.heap.size ≤ g := fun g hg => (World.ownsRow.lt hoBA g hg).1
            have hBA_B := (hB_B.below hxBA).wider hxBA.size
            have hdBA_B : ∀ g, vBA.ownBlock = some g → g ≠ Wd.heap.size := fun g hg => by have := hlBA g hg; have := (show Wd.heap.size < wB.heap.size by have := HsB.out; omega); omega
            intro KBA hKBA
            refine oper_app _ _ _ rfl _ _ (by rfl) (by rfl) hrBA ?_
            refine hKBA _ _ ⟨fun _ => hbBA, ?_⟩
            refine anyS_one 4 rfl (by kernel_rfl) rfl ?_
            obtain ⟨vBAC, wBAC, hrBAC, hoBAC, hgBAC⟩ := posts_moreG hwBA hBA_B hbBA.size (by omega)
            have hbBAC : Below Wd.heap.size Wd wBAC := hbBA.grown hgBAC hbBA.size fun g hg => (World.ownsRow.lt hwBA g hg).1
            intro KBAC hKBAC
            refine oper_app _ _ _ rfl _ _ (by rfl) (by rfl) hrBAC ?_
            refine hKBAC _ _ ⟨fun _ => hbBAC, ?_⟩
            obtain ⟨Ay, cy, hvy, hiny⟩ := LIn.own ptL_len (by rw [HlY.out]; exact hoBAC : wBAC.ownsRow _ _ 5 _ (ps ++ [ftC c]).length _)
            rw [HlY.out] at hvy hiny
            subst hvy
            have HPy := posted_any Ay (n + 1) cy _ (ps ++ [ftC c]) wBAC hiny (Nat.le_refl _) (by omega) (HgW.out _ hbBAC) HokY.out
            unfold PdPost at HPy
            rw [HlY.out] at HPy
            have HPy := Lib.hid HPy
            clear hiny
            refine anyS_one 5 rfl (by kernel_rfl) rfl ?_
            intro K5 hK5
            go_simp
            refine HPy.out.mono ?_
            rintro e wz ⟨Az, cz, rfl, hinz, hbz⟩
            have hbW := hbBAC.trans (hbz.mono hbBAC.size)
            have HA := Lib.hid (show GsIn wz wz.heap.size Az (n + 1) cz (gotsB bs0 (ps ++ [ftC c])).1 from hinz)
            have HBz := Lib.hid (HT.out _ hbW)
            refine hK5 _ _ ⟨fun _ => hbW, ?_⟩
            refine anyS_take 6 (v := .tuple #[.slice Az (n + 1) cz, .bool true]) rfl (by kernel_rfl) (by kernel_rfl) (by kernel_rfl) (by kernel_rfl) (fun _ _ _ h => h) (.inl ⟨by kernel_rfl, fun w' hS' => by first | kernel_rfl | go_simp⟩) hbW ?_
            refine anyS_take 7 (v := .slice Az (n + 1) cz) rfl (by kernel_rfl) (by kernel_rfl) (by kernel_rfl) (by kernel_rfl) (fun _ _ _ h => h) (.inl ⟨by kernel_rfl, fun w' hS' => by first | kernel_rfl | go_simp⟩) hbW ?_
            refine anyS_take 8 (v := .bool true) rfl (by kernel_rfl) (by kernel_rfl) (by kernel_rfl) (by kernel_rfl) (fun _ _ _ h => h) (.inl ⟨by kernel_rfl, fun w' hS' => by first | kernel_rfl | go_simp⟩) hbW ?_
            refine anyS_one 9 rfl (by kernel_rfl) rfl ?_
            intro K9 hK9
            go_simp
            refine hK9 _ _ ⟨fun _ => hbW, ?_⟩
            refine anyS_one 10 rfl (by kernel_rfl) rfl ?_
            intro K10 hK10
            go_simp
            refine hK10 _ _ ⟨fun _ => hbW, ?_⟩
            refine anyS_done (by kernel_rfl) ?_
            go_wp2_with fail
            go_meet
            exact ⟨Az, cz, rfl, rfl, HA.out, HBz.out⟩
        case rest =>
          obtain ⟨A11, c11, rfl, rfl, hin11, hb11⟩ := hcut
          have hY : (gotsB bs0 (ps ++ [ftC c])).1.length = n + 1 := by rw [gotsB_len, List.length_append, Hn.out]; rfl
          have hyi : (gotsB bs0 (ps ++ [ftC c])).1[n]? = some gg := by have := Q2.out; rwa [Hn.out] at this
          generalize (gotsB bs0 (ps ++ [ftC c])).1 = Y at *
          have hX1 : k1 < X.length := by rw [HX.out, HK1.out]; omega
          have hX2 : k2 < X.length := by rw [HX.out, HK2.out]; omega
          have hny : n < Y.length := by rw [hY]; omega
          obtain ⟨ba, oa, Ma, ca, hA10, hba, hma, a0, a1, a2⟩ := (Hin10.out.below hb11).at_ hX1
          obtain ⟨bb2, ob2, Mb, cb, hA10', hbb2, hmb, b0, b1, b2⟩ := (Hin10.out.below hb11).at_ hX2
          subst hA10
          injection hA10' with hA10'
          injection hA10' with z1 z2
          subst z1 z2
          obtain ⟨bc, oc, Mc, cc, hA11, hbc3, hmc, d0, d1, d2⟩ := hin11.at_ hny
          subst hA11
          have t1 := L5.out
          have t2 := L6.out
          rw [List.getElem?_eq_getElem hX1] at t1
          rw [List.getElem?_eq_getElem hX2] at t2
          rw [List.getElem?_eq_getElem hny] at hyi
          injection t1 with t1
          injection t2 with t2
          injection hyi with hyi
          simp only [t1] at a0 a1 a2 hma
          simp only [t2] at b0 b1 b2 hmb
          simp only [hyi] at d0 d1 d2 hmc
          have hg0 : gg.code = 0 := Q1.out
          clear t1 t2 hyi
          have hmt : gg.mail.length ≤ 1048576 := by rw [← Hgg.out]; have := got_mail (ten0.gots ps) (⟨2, [], 0, [], (c : Int)⟩ : Pt); omega
          obtain ⟨gc, gx, gm⟩ := gg
          simp only at a0 a1 a2 b0 b1 b2 d0 d1 d2 hma hmb hmc hg0 hmt
          subst hg0
          obtain ⟨Wd, hWd⟩ : ∃ Wd, wc.drew = Wd := ⟨_, rfl⟩
          have hbd : Below wc.heap.size wc Wd := by rw [← hWd]; exact below_drewN (Below.refl _ _) 1
          have hba' : ba < wc.heap.size := Nat.lt_of_lt_of_le hba hb11.size
          have hds : wc.heap.size ≤ Wd.heap.size := hbd.size
          have HZ : Hid (∀ w', Below Wd.heap.size Wd w' → (w'.cell? ⟨ba, oa + k1 * 3, none⟩ = some (.int .i64 0) ∧ w'.cell? ⟨ba, oa + k1 * 3 + 1, none⟩ = some (.int .i64 gx) ∧ w'.cell? ⟨ba, oa + k1 * 3 + 2, none⟩ = some (.slice Ma gm.length ca)) ∧
              (w'.cell? ⟨ba, oa + k2 * 3, none⟩ = some (.int .i64 0) ∧ w'.cell? ⟨ba, oa + k2 * 3 + 1, none⟩ = some (.int .i64 gx) ∧ w'.cell? ⟨ba, oa + k2 * 3 + 2, none⟩ = some (.slice Mb gm.length cb)) ∧
              (w'.cell? ⟨bc, oc + n * 3, none⟩ = some (.int .i64 0) ∧ w'.cell? ⟨bc, oc + n * 3 + 1, none⟩ = some (.int .i64 gx) ∧ w'.cell? ⟨bc, oc + n * 3 + 2, none⟩ = some (.slice Mc gm.length cc))) := Lib.hid fun w' hw' => by
            have hh := hbd.trans (hw'.mono hds)
            have ka : ∀ o, w'.cell? ⟨ba, o, none⟩ = wc.cell? ⟨ba, o, none⟩ := fun o => hh.cell (p := ⟨ba, o, none⟩) hba'
            have kc : ∀ o, w'.cell? ⟨bc, o, none⟩ = wc.cell? ⟨bc, o, none⟩ := fun o => hh.cell (p := ⟨bc, o, none⟩) hbc3
            exact ⟨⟨(ka _).trans a0, (ka _).trans a1, (ka _).trans a2⟩, ⟨(ka _).trans b0, (ka _).trans b1, (ka _).trans b2⟩, ⟨(kc _).trans d0, (kc _).trans d1, (kc _).trans d2⟩⟩
          have Hma := Lib.hid ((hma.wider hb11.size).below hbd)
          have Hmb := Lib.hid ((hmb.wider hb11.size).below hbd)
          have Hmc := Lib.hid (hmc.below hbd)
          have HS1 := Lib.hid (sameGot_any ⟨0, gx, gm⟩ Ma Mb ca cb wc.heap.size wc.heap.size Wd Hma.out Hmb.out hds hds hmt)
          have HS2 := Lib.hid (fun W (hW : Below Wd.heap.size Wd W) => sameGot_any ⟨0, gx, gm⟩ Ma Mc ca cc Wd.heap.size Wd.heap.size W ((Hma.out.wider hds).below hW) ((Hmc.out.wider hds).below hW) hW.size hW.size hmt)
          have HFin := Lib.hid (show Below w.heap.size w Wd from (HBw5.out.trans ((Hb10.out.trans (hb11.mono Hb10.out.size)).mono HBw5.out.size)).trans (hbd.mono (by have := HBw5.out.size; have := Hb10.out.size; have := hb11.size; omega)))
          have hS0 : Below Wd.heap.size Wd Wd := Below.refl _ _
          have HWd := Lib.hid hWd
          have hq1 : IntKind.i64.wrap ((k : Int) - 1) = (k1 : Int) := by have := HK1.out; rw [IntWalk.i64_in _ (by omega)]; omega
          have hq2 : IntKind.i64.wrap ((k : Int) - 2) = (k2 : Int) := by have := HK2.out; rw [IntWalk.i64_in _ (by omega)]; omega
          have hqi : (k1 : Int) < (k : Int) := by have := HK1.out; omega
          have hqj : (k2 : Int) < (k : Int) := by have := HK2.out; omega
          have hq3 : (2 : Int) ≤ (k : Int) := by have := HK2.out; omega
          have h00 : ((0 : Int) == 0) = true := by decide
          have hmtl : gm.length = gm.length := rfl
          generalize gm.length = ml at *
          clear hbd hWd a0 a1 a2 b0 b1 b2 d0 d1 d2 hma hmb hmc hin11 hba hbb2 hmtl
          go_wp2_with fail
          refine region_S (fun w' => Below Wd.heap.size Wd w') [] (by kernel_rfl) ?_
          rw [HWd.out]
          have hwn2 : IntKind.i64.wrap (n : Int) = (n : Int) := by rw [IntWalk.i64_in _ (by omega)]
          have hnn1 : ¬ (n : Int) + 1 ≤ (n : Int) := by omega
          refine anyS_take 0 (v := .bool true) rfl (by kernel_rfl) (by kernel_rfl) (by kernel_rfl) (by kernel_rfl) (fun _ _ _ h => h) (.inl ⟨by kernel_rfl, fun w' hS' => by kernel_rfl⟩) hS0 ?_
          refine anyS_take 1 (v := .bool true) rfl (by kernel_rfl) (by kernel_rfl) (by kernel_rfl) (by kernel_rfl) (fun _ _ _ h => h) (.inl ⟨by kernel_rfl, fun w' hS' => by kernel_rfl⟩) hS0 ?_
          go_simp
          refine anyS_take 2 (v := .bool true) rfl (by kernel_rfl) (by kernel_rfl) (by kernel_rfl) (by kernel_rfl) (fun _ _ _ h => h) (.inl ⟨by kernel_rfl, fun w' hS' => by kernel_rfl⟩) hS0 ?_
          refine anyS_take 3 (v := .bool true) rfl (by kernel_rfl) (by kernel_rfl) (by kernel_rfl) (by kernel_rfl) (fun _ _ _ h => h) (.inl ⟨by kernel_rfl, fun w' hS' => by go_simp⟩) hS0 ?_
          go_simp
          refine anyS_take 4 (v := .bool true) rfl (by kernel_rfl) (by kernel_rfl) (by kernel_rfl) (by kernel_rfl) (fun _ _ _ h => h) (.inl ⟨by kernel_rfl, fun w' hS' => by kernel_rfl⟩) hS0 ?_
          refine anyS_take 5 (v := .int .i64 (k : Int)) rfl (by kernel_rfl) (by kernel_rfl) (by kernel_rfl) (by kernel_rfl) (fun _ _ _ h => h) (.inl ⟨by kernel_rfl, fun w' hS' => by kernel_rfl⟩) hS0 ?_
          go_simp
          refine anyS_take 6 (v := .bool true) rfl (by kernel_rfl) (by kernel_rfl) (by kernel_rfl) (by kernel_rfl) (fun _ _ _ h => h) (.inl ⟨by kernel_rfl, fun w' hS' => by go_simp⟩) hS0 ?_
          refine anyS_take 7 (v := .bool true) rfl (by kernel_rfl) (by kernel_rfl) (by kernel_rfl) (by kernel_rfl) (fun _ _ _ h => h) (.inl ⟨by kernel_rfl, fun w' hS' => by go_simp⟩) hS0 ?_
          go_simp
          refine anyS_take 8 (v := .bool true) rfl (by kernel_rfl) (by kernel_rfl) (by kernel_rfl) (by kernel_rfl) (fun _ _ _ h => h) (.inl ⟨by kernel_rfl, fun w' hS' => by kernel_rfl⟩) hS0 ?_
          refine anyS_take 9 (v := .slice (some ⟨ba, oa, none⟩) k c10) rfl (by kernel_rfl) (by kernel_rfl) (by kernel_rfl) (by kernel_rfl) (fun _ _ _ h => h) (.inl ⟨by kernel_rfl, fun w' hS' => by kernel_rfl⟩) hS0 ?_
          go_simp
          refine anyS_take 10 (v := .int .i64 (k : Int)) rfl (by kernel_rfl) (by kernel_rfl) (by kernel_rfl) (by kernel_rfl) (fun _ _ _ h => h) (.inl ⟨by kernel_rfl, fun w' hS' => by kernel_rfl⟩) hS0 ?_
          refine anyS_take 11 (v := .int .i64 (k1 : Int)) rfl (by kernel_rfl) (by kernel_rfl) (by kernel_rfl) (by kernel_rfl) (fun _ _ _ h => h) (.inl ⟨by kernel_rfl, fun w' hS' => by go_simp⟩) hS0 ?_
          go_simp
          refine anyS_take 12 (v := .pointer (some ⟨ba, oa + k1 * 3, none⟩)) rfl (by kernel_rfl) (by kernel_rfl) (by kernel_rfl) (by kernel_rfl) (fun _ _ _ h => h) (.inl ⟨by kernel_rfl, fun w' hS' => by go_simp⟩) hS0 ?_
          refine anyS_take 13 (v := .agg #[.int .i64 0, .int .i64 gx, .slice Ma ml ca]) rfl (by kernel_rfl) (by kernel_rfl) (by kernel_rfl) (by kernel_rfl) (fun _ _ _ h => h) (.inl ⟨by kernel_rfl, fun w' hS' => by obtain ⟨⟨x0, x1, x2⟩, ⟨y0, y1, y2⟩, z0, z1, z2⟩ := HZ.out w' hS'; go_simp⟩) hS0 ?_
          go_simp
          refine anyS_take 14 (v := .slice (some ⟨ba, oa, none⟩) k c10) rfl (by kernel_rfl) (by kernel_rfl) (by kernel_rfl) (by kernel_rfl) (fun _ _ _ h => h) (.inl ⟨by kernel_rfl, fun w' hS' => by kernel_rfl⟩) hS0 ?_
          refine anyS_take 15 (v := .int .i64 (k : Int)) rfl (by kernel_rfl) (by kernel_rfl) (by kernel_rfl) (by kernel_rfl) (fun _ _ _ h => h) (.inl ⟨by kernel_rfl, fun w' hS' => by kernel_rfl⟩) hS0 ?_
          go_simp
          refine anyS_take 16 (v := .int .i64 (k2 : Int)) rfl (by kernel_rfl) (by kernel_rfl) (by kernel_rfl) (by kernel_rfl) (fun _ _ _ h => h) (.inl ⟨by kernel_rfl, fun w' hS' => by go_simp⟩) hS0 ?_
          refine anyS_take 17 (v := .pointer (some ⟨ba, oa + k2 * 3, none⟩)) rfl (by kernel_rfl) (by kernel_rfl) (by kernel_rfl) (by kernel_rfl) (fun _ _ _ h => h) (.inl ⟨by kernel_rfl, fun w' hS' => by go_simp⟩) hS0 ?_
          go_simp
          refine anyS_take 18 (v := .agg #[.int .i64 0, .int .i64 gx, .slice Mb ml cb]) rfl (by kernel_rfl) (by kernel_rfl) (by kernel_rfl) (by kernel_rfl) (fun _ _ _ h => h) (.inl ⟨by kernel_rfl, fun w' hS' => by obtain ⟨⟨x0, x1, x2⟩, ⟨y0, y1, y2⟩, z0, z1, z2⟩ := HZ.out w' hS'; go_simp⟩) hS0 ?_
          go_simp
          refine anyS_oneG 19 rfl (by kernel_rfl) (by kernel_rfl) ?_
          intro K19 hK19
          go_simp
          refine HS1.out.mono ?_
          rintro e wf ⟨rfl, hbf⟩
          refine hK19 _ _ ⟨fun _ => hbf, ?_⟩
          refine anyS_take 20 (v := .bool true) rfl (by kernel_rfl) (by kernel_rfl) (by kernel_rfl) (by kernel_rfl) (fun _ _ _ h => h) (.inl ⟨by kernel_rfl, fun w' hS' => by go_simp⟩) hbf ?_
          refine anyS_take 21 (v := .bool true) rfl (by kernel_rfl) (by kernel_rfl) (by kernel_rfl) (by kernel_rfl) (fun _ _ _ h => h) (.inl ⟨by kernel_rfl, fun w' hS' => by kernel_rfl⟩) hbf ?_
          go_simp
          refine anyS_take 22 (v := .slice (some ⟨ba, oa, none⟩) k c10) rfl (by kernel_rfl) (by kernel_rfl) (by kernel_rfl) (by kernel_rfl) (fun _ _ _ h => h) (.inl ⟨by kernel_rfl, fun w' hS' => by kernel_rfl⟩) hbf ?_
          refine anyS_take 23 (v := .int .i64 (k : Int)) rfl (by kernel_rfl) (by kernel_rfl) (by kernel_rfl) (by kernel_rfl) (fun _ _ _ h => h) (.inl ⟨by kernel_rfl, fun w' hS' => by kernel_rfl⟩) hbf ?_
          go_simp
          refine anyS_take 24 (v := .int .i64 (k1 : Int)) rfl (by kernel_rfl) (by kernel_rfl) (by kernel_rfl) (by kernel_rfl) (fun _ _ _ h => h) (.inl ⟨by kernel_rfl, fun w' hS' => by go_simp⟩) hbf ?_
          refine anyS_take 25 (v := .pointer (some ⟨ba, oa + k1 * 3, none⟩)) rfl (by kernel_rfl) (by kernel_rfl) (by kernel_rfl) (by kernel_rfl) (fun _ _ _ h => h) (.inl ⟨by kernel_rfl, fun w' hS' => by go_simp⟩) hbf ?_
          go_simp
          refine anyS_take 26 (v := .agg #[.int .i64 0, .int .i64 gx, .slice Ma ml ca]) rfl (by kernel_rfl) (by kernel_rfl) (by kernel_rfl) (by kernel_rfl) (fun _ _ _ h => h) (.inl ⟨by kernel_rfl, fun w' hS' => by obtain ⟨⟨x0, x1, x2⟩, ⟨y0, y1, y2⟩, z0, z1, z2⟩ := HZ.out w' hS'; go_simp⟩) hbf ?_
          refine anyS_take 27 (v := .slice (some ⟨bc, oc, none⟩) (n + 1) c11) rfl (by kernel_rfl) (by kernel_rfl) (by kernel_rfl) (by kernel_rfl) (fun _ _ _ h => h) (.inl ⟨by kernel_rfl, fun w' hS' => by kernel_rfl⟩) hbf ?_
          go_simp
          refine anyS_take 28 (v := .slice (some ⟨bc, oc, none⟩) (n + 1) c11) rfl (by kernel_rfl) (by kernel_rfl) (by kernel_rfl) (by kernel_rfl) (fun _ _ _ h => h) (.inl ⟨by kernel_rfl, fun w' hS' => by kernel_rfl⟩) hbf ?_
          refine anyS_take 29 (v := .int .i64 ((n + 1 : Nat) : Int)) rfl (by kernel_rfl) (by kernel_rfl) (by kernel_rfl) (by kernel_rfl) (fun _ _ _ h => h) (.inl ⟨by kernel_rfl, fun w' hS' => by go_simp⟩) hbf ?_
          go_simp
          refine anyS_take 30 (v := .int .i64 (n : Int)) rfl (by kernel_rfl) (by kernel_rfl) (by kernel_rfl) (by kernel_rfl) (fun _ _ _ h => h) (.inl ⟨by kernel_rfl, fun w' hS' => by go_simp⟩) hbf ?_
          refine anyS_take 31 (v := .pointer (some ⟨bc, oc + n * 3, none⟩)) rfl (by kernel_rfl) (by kernel_rfl) (by kernel_rfl) (by kernel_rfl) (fun _ _ _ h => h) (.inl ⟨by kernel_rfl, fun w' hS' => by go_simp⟩) hbf ?_
          go_simp
          refine anyS_take 32 (v := .agg #[.int .i64 0, .int .i64 gx, .slice Mc ml cc]) rfl (by kernel_rfl) (by kernel_rfl) (by kernel_rfl) (by kernel_rfl) (fun _ _ _ h => h) (.inl ⟨by kernel_rfl, fun w' hS' => by obtain ⟨⟨x0, x1, x2⟩, ⟨y0, y1, y2⟩, z0, z1, z2⟩ := HZ.out w' hS'; go_simp⟩) hbf ?_
          go_simp
          refine anyS_oneG 33 rfl (by kernel_rfl) (by kernel_rfl) ?_
          intro K33 hK33
          go_simp
          refine (HS2.out wf hbf).mono ?_
          rintro e wg ⟨rfl, hbg2⟩
          have hbh := hbf.trans (hbg2.mono hbf.size)
          refine hK33 _ _ ⟨fun _ => hbh, ?_⟩
          refine anyS_take 34 (v := .bool true) rfl (by kernel_rfl) (by kernel_rfl) (by kernel_rfl) (by kernel_rfl) (fun _ _ _ h => h) (.inl ⟨by kernel_rfl, fun w' hS' => by go_simp⟩) hbh ?_
          refine anyS_take 35 (v := .bool true) rfl (by kernel_rfl) (by kernel_rfl) (by kernel_rfl) (by kernel_rfl) (fun _ _ _ h => h) (.inl ⟨by kernel_rfl, fun w' hS' => by kernel_rfl⟩) hbh ?_
          go_simp
          refine anyS_take 36 (v := .slice (some ⟨ba, oa, none⟩) k c10) rfl (by kernel_rfl) (by kernel_rfl) (by kernel_rfl) (by kernel_rfl) (fun _ _ _ h => h) (.inl ⟨by kernel_rfl, fun w' hS' => by kernel_rfl⟩) hbh ?_
          refine anyS_take 37 (v := .int .i64 (k : Int)) rfl (by kernel_rfl) (by kernel_rfl) (by kernel_rfl) (by kernel_rfl) (fun _ _ _ h => h) (.inl ⟨by kernel_rfl, fun w' hS' => by kernel_rfl⟩) hbh ?_
          go_simp
          refine anyS_take 38 (v := .int .i64 (k1 : Int)) rfl (by kernel_rfl) (by kernel_rfl) (by kernel_rfl) (by kernel_rfl) (fun _ _ _ h => h) (.inl ⟨by kernel_rfl, fun w' hS' => by go_simp⟩) hbh ?_
          refine anyS_take 39 (v := .pointer (some ⟨ba, oa + k1 * 3, none⟩)) rfl (by kernel_rfl) (by kernel_rfl) (by kernel_rfl) (by kernel_rfl) (fun _ _ _ h => h) (.inl ⟨by kernel_rfl, fun w' hS' => by go_simp⟩) hbh ?_
          go_simp
          refine anyS_take 40 (v := .pointer (some ⟨ba, oa + k1 * 3, none⟩)) rfl (by kernel_rfl) (by kernel_rfl) (by kernel_rfl) (by kernel_rfl) (fun _ _ _ h => h) (.inl ⟨by kernel_rfl, fun w' hS' => by go_simp⟩) hbh ?_
          refine anyS_take 41 (v := .int .i64 0) rfl (by kernel_rfl) (by kernel_rfl) (by kernel_rfl) (by kernel_rfl) (fun _ _ _ h => h) (.inl ⟨by kernel_rfl, fun w' hS' => by obtain ⟨⟨x0, x1, x2⟩, ⟨y0, y1, y2⟩, z0, z1, z2⟩ := HZ.out w' hS'; go_simp⟩) hbh ?_
          go_simp
          refine anyS_take 42 (v := .bool true) rfl (by kernel_rfl) (by kernel_rfl) (by kernel_rfl) (by kernel_rfl) (fun _ _ _ h => h) (.inl ⟨by kernel_rfl, fun w' hS' => by go_simp⟩) hbh ?_
          refine anyS_take 43 (v := .bool true) rfl (by kernel_rfl) (by kernel_rfl) (by kernel_rfl) (by kernel_rfl) (fun _ _ _ h => h) (.inl ⟨by kernel_rfl, fun w' hS' => by go_simp⟩) hbh ?_
          go_simp
          refine anyS_one 44 rfl (by kernel_rfl) rfl ?_
          intro K44 hK44
          go_simp
          refine hK44 _ _ ⟨fun _ => hbh, ?_⟩
          refine anyS_done (by kernel_rfl) ?_
          go_wp2_with fail
          go_ret
          exact ⟨rfl, HFin.out.trans (hbh.mono HFin.out.size)⟩
namespace boxAgain
open Go.ChangeShapes Go.WideShapes Go.ChangeAt Go.RowKit
theorem own : ownKnob Try.prog.godebug = none := by kernel_rfl
theorem laidOut : laidOutB Try.prog = true := by kernel_rfl
set_option linter.unusedVariables false
set_option maxRecDepth 100000 in
theorem lifted (os : Os) (started : os.Started) (H : Type) (enc : TypeId × Value → H) :
    ReturnsInHanded {} Try.checked os 12 .any (Rows.boxAgainSpec.pre6 enc Try.prog Try.f12 Rows.boxAgainRow.domain false) (Rows.boxAgainSpec.post enc Try.prog Try.f12 false true false false) := by
  refine returnsInHanded_of_change_shaped (C := Try.checked) own started (by kernel_rfl) Try.func12
    (ChangeSpec.witness6 (enc := enc) (C := Try.checked) false ⟨#[], #[.slice none 0 0, .int .i64 0], []⟩ 8 (by kernel_rfl) (by kernel_rfl) (by kernel_rfl) (by kernel_rfl)) ?_
  intro W base args ds gs before hval0 hW hcnd _ hsh0 _
  have hsh : W.ShapedOpen Try.prog := hsh0
  have hval : ∀ (j : Nat) t v, Try.f12.params[j]? = some t → args[j]? = some v → Value.okWide Try.prog W .any base t v := hval0
  have hW' := hW
  obtain ⟨p, q, hA0, hV, rfl, hfz, hnd⟩ := hW
  have hA : DataW.TrodAll enc Try.prog W 0 (fun _ => true) true Try.f12.params.toList args.toList ds p := hA0
  rw [Try.params12] at hA hval
  obtain ⟨v0, vs0, d0, ds0, p0, q0, hargs, rfl, rfl, h0, rr0⟩ := trodAll_cons hA
  obtain ⟨v1, vs1, d1, ds1, p1, q1, rfl, rfl, rfl, h1, rr1⟩ := trodAll_cons rr0
  obtain ⟨rfl, rfl, rfl⟩ := trodAll_nil rr1
  obtain rfl : args = #[v0, v1] := by cases args; simp_all
  obtain ⟨rfl, rfl⟩ := trodVars_none hV
  have k0 := h0
  have lt0 : ∀ x ∈ p0, x.block < W.heap.size := by obtain ⟨m, hm⟩ := k0; exact DataW.trod_lt m _ _ _ hm
  obtain ⟨A0, n0, c0, rfl, hx0⟩ := open_intsl Try.underlying37 Try.underlying3 (by kernel_rfl) (hval 0 37 v0 rfl rfl) h0
  have k1 := h1
  have lt1 : ∀ x ∈ p1, x.block < W.heap.size := by obtain ⟨m, hm⟩ := k1; exact DataW.trod_lt m _ _ _ hm
  obtain ⟨x1, rfl, hx1⟩ := open_i64 Try.underlying3 (hval 1 3 v1 rfl rfl) h1
  clear hA0 hval0
  refine (walkBoxAgain A0 n0 c0 x1 W hx0 hx1 hsh).mono fun e W' ⟨he, bel⟩ => ?_
  subst he
  exact ⟨_, rfl, _, _, _, [], _, [], hW', trodAll_mk1 (shut_bool Try.underlying4 _), (trodAll_cons_mk (Below.trod laidOut (by kernel_rfl) (of_decide_eq_true (by kernel_rfl)) k0 bel lt0) (trodAll_cons_mk (Below.trod laidOut (by kernel_rfl) (of_decide_eq_true (by kernel_rfl)) k1 bel lt1) trodAll_mk0)), rfl, bel.frame _, fun h => by cases h⟩

theorem over : Rows.boxAgainRow.holds Try.pinned (OpenSpec.ofChange Rows.boxAgainSpec) :=
  OpenClaim.holds_of_wide 12 Try.f12 rfl rfl rfl rfl rfl rfl rfl ⟨rfl, rfl, rfl, rfl, rfl⟩ rfl rfl rfl rfl rfl (by kernel_rfl) Try.func12 (by kernel_rfl)
    (of_decide_eq_true (by kernel_rfl)) (by unfold Func.isWrapper; first | (rw [if_pos (by decide +kernel)]; kernel_rfl) | (rw [if_neg (by decide +kernel)]; exact ⟨rfl, rfl⟩))
    (fun os started H enc _ => lifted os started H enc)

theorem proved : Rows.BoxAgainSaid := over
#print axioms proved
end boxAgain
end Go.Proofs.Ytmlgaedhfannmaa
