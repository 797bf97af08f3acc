/- Proved here: keys that are sent through a box arrive in order, each one-time key once (statement TopMail). No condition. -/
import Derived.Test.YtgckihglgnbaoaaBxAll
import Derived.Test.YtgckihglgnbaoaaKyIdB
import Derived.Test.YtgckihglgnbaoaaBunKD
import Derived.Test.YtgckihglgnbaoaaOpenI
import Derived.HandedShaped
namespace Go.Proofs.Ytgckihglgnbaoaa
set_option linter.unusedVariables false
set_option linter.unusedSimpArgs false
open Go.RowKit
def TmA (W : World) (n : Nat) (gk : Nat) (s6 s7 s8 : Value) (wr : World) : Prop :=
  ∃ (i : Nat) (S : List (Nat × List UInt8)), s8 = .int .i64 (i : Int) ∧ i ≤ n ∧ gk = n - i ∧ S.length ≤ 10 ∧ (∀ x ∈ S, x.1 < i ∧ x.2.length ≤ 20) ∧ (S.map (·.1)).Nodup ∧
    wr.ownsRow W.heap.size 43 5 s6 S.length (pcK ptL (S.map sP)) ∧ wr.ownsRow W.heap.size 9 1 s7 S.length (pcK stL (S.map (·.2))) ∧ Below W.heap.size W wr
def TmB (W : World) (m : Nat) (gk : Nat) (s14 : Value) (wr : World) : Prop := ∃ i q : Nat, s14 = .int .i64 (i : Int) ∧ i ≤ m ∧ gk = m - i ∧ wr = W.drewN q
set_option maxHeartbeats 8000000 in
set_option maxRecDepth 100000 in
theorem walkTopMail (A0 : Option Addr) (n0 c0 : Nat) (w : World) (hx0 : IntsAt w w.heap.size A0 n0 c0) (hsh : w.ShapedOpen Try.prog) :
    Calls Try.prog 10 #[.slice A0 n0 c0] w fun e w' => e = .returned (.bool true) ∧ Below w.heap.size w w' := by
  have hg := Gl.of hsh
  have H1 := Lib.hid (asks_any A0 n0 c0 w.heap.size 60 w hx0 (Nat.le_refl _) (by decide))
  have Hg := Lib.hid hg
  clear hx0 hsh hg
  go_enter Try.func10, Try.ntmps10
  go_wp2_with fail
  refine H1.out.mono ?_
  rintro e w1 ⟨v1, l, rfl, ho1, hlen, hok, b1⟩
  obtain ⟨A1, c1, rfl, hin1⟩ := LIn.own akL_len ho1
  have hokp : ∀ a ∈ l, AkOk a := fun a ha => okA_ok (hok a ha)
  obtain ⟨n, hn⟩ : ∃ n, l.length = n := ⟨_, rfl⟩
  have hn60 : n ≤ 60 := by omega
  rw [hn] at hin1 ⊢
  obtain ⟨v2, w2, hrun2, ho2, hb2⟩ := asks_copy hin1 (by omega)
  obtain ⟨A2, c2, hv2, hin2⟩ := LIn.own akL_len ho2
  subst hv2
  rw [hn] at hin2
  simp only [hn] at hrun2
  have HP := Lib.hid (kplay_any A2 n c2 w2.heap.size l w2 hin2 (Nat.le_refl _) (by omega) (Hg.out.below (b1.trans (hb2.mono b1.size))) hokp)
  have hpl : playK l = ((asksR ks0 l).1, 0) := by unfold playK; rw [if_neg (by omega)]
  unfold PKPost at HP
  rw [hpl] at HP
  simp only [asksR_len, hn] at HP
  have Hrun2 := Lib.hid hrun2
  have Hin1 := Lib.hid (hin1.below hb2)
  have B2 := Lib.hid (b1.trans (hb2.mono b1.size))
  have Hb2 := Lib.hid hb2
  have HId := Lib.hid (IdB.asks l idB0).1
  have HRl : Hid ((asksR ks0 l).1.length = n) := Lib.hid (by rw [asksR_len, hn])
  have Hn := Lib.hid hn
  generalize (asksR ks0 l).1 = R at *
  have hnn : ((n : Int) != (n : Int)) = false := by simp
  have h00 : ((0 : Int) != 0) = false := by decide
  clear ho1 hlen hok b1 hrun2 ho2 hb2 hin1 hin2 hokp hn hpl H1
  go_wp2_with (first | (at_builtin; refine rw_app rfl _ _ _ rfl _ _ (by rfl) (by rfl) Hrun2.out ?_; clear Hrun2) | fail)
  refine HP.out.mono ?_
  rintro e w3 ⟨A3, c3, rfl, hin3, b3⟩
  have Hin3 := Lib.hid hin3
  have Hin13 := Lib.hid ((Hin1.out.below (b3.mono Hb2.out.size)).wider (Nat.le_trans Hb2.out.size b3.size))
  have B3 := Lib.hid (B2.out.trans (b3.mono B2.out.size))
  clear hin3 b3 HP Hin1
  go_wp2_with fail
  go_loopg [6, 7, 8] n (TmA w3 n)
  case atStart => exact ⟨0, [], rfl, Nat.zero_le _, by omega, by simp, by simp, by simp, World.ownsRow_nil _ _ _ _, World.ownsRow_nil _ _ _ _, Below.refl _ _⟩
  case round =>
    obtain ⟨i, S, rfl, hi, hgk, hS1, hS2, hS3, ho6, ho7, hbe⟩ := hrel
    have Hgk := Lib.hid hgk
    have HS1 := Lib.hid hS1
    have HS2 := Lib.hid hS2
    have HS3 := Lib.hid hS3
    have Ho6 := Lib.hid ho6
    have Ho7 := Lib.hid ho7
    have Hbe := Lib.hid hbe
    have hszw := hbe.size
    obtain ⟨A7, c7, hv7, -⟩ := own_form ho7
    subst hv7
    clear hgk hS1 hS2 hS3 ho6 ho7 hbe
    by_cases hin : i < n
    · have hii : (i : Int) < (n : Int) := by omega
      have hil : i < l.length := by rw [Hn.out]; exact hin
      have hir : i < R.length := by rw [HRl.out]; exact hin
      obtain ⟨ba, oa, hA1, hba, d0, d1, d2, d3, d4⟩ := ask_at (Hin13.out.below Hbe.out) hil
      obtain ⟨bg, og, hA3, hbg, e0, e2, e3, e4, e5, e1⟩ := gvn_at (Hin3.out.below Hbe.out) hir
      subst hA1 hA3
      have hidl := HId.out R[i] (List.getElem_mem hir)
      obtain ⟨⟨ak, asrt, aid, abo, aby⟩, hai⟩ : ∃ q, l[i] = q := ⟨_, rfl⟩
      obtain ⟨⟨gc, gi, gb, gs, gm⟩, hgi⟩ : ∃ q, R[i] = q := ⟨_, rfl⟩
      rw [hai] at d0 d1 d2 d3 d4
      rw [hgi] at e0 e2 e3 e4 e5 hidl
      simp only at d0 d1 d2 d3 d4 e0 e2 e3 e4 e5 hidl
      have hbaw : ba < wr.heap.size := by omega
      have hbgw : bg < wr.heap.size := by omega
      clear hai hgi
      have Hskip := Lib.hid (show TmA w3 n (n - (i + 1)) u6 (.slice A7 S.length c7) (.int .i64 ((i + 1 : Nat) : Int)) wr from ⟨i + 1, S, rfl, by omega, rfl, HS1.out, fun x hx => ⟨by have := (HS2.out x hx).1; omega, (HS2.out x hx).2⟩, HS3.out, Ho6.out, Ho7.out, Hbe.out⟩)
      have hcast : ((i + 1 : Nat) : Int) = (i : Int) + 1 := by omega
      by_cases hk : ak = 3
      · subst hk
        by_cases hc : gc = 0
        · subst hc
          by_cases hs : S.length < 10
          · have hsi : (S.length : Int) < 10 := by omega
            obtain ⟨v6, w6, hrun6, ho6', hb6⟩ := post_more Ho6.out (Below.refl w3.heap.size wr) hszw (sP (i, gi)) #[.int .i64 1, .string ⟨#[64, 97, 58, 120]⟩, .int .i64 (i : Int), str gi, .int .i64 0] rfl (by omega)
            have hw6s : wr.heap.size ≤ w6.heap.size := hb6.size
            obtain ⟨va, wa, hruna, hoa, hga, -⟩ := run_app_el (P := Try.prog) (enc := ptL) ptL_len ptL_one (by omega) Try.underlying30 info_post rfl (by omega) wr w3.heap.size S.length u6 (S.map sP) (sP (i, gi)) #[.int .i64 1, .string ⟨#[64, 97, 58, 120]⟩, .int .i64 (i : Int), str gi, .int .i64 0] rfl Ho6.out (by omega) hszw
            rw [hruna] at hrun6
            injection hrun6 with q1 q2
            subst q1 q2
            have hga' : wr.grownBy wa u6.ownBlock := (World.grownBy_alloc wr _ _).trans hga
            have ho76 : wa.ownsRow w3.heap.size 9 1 (.slice A7 S.length c7) S.length (pcK stL (S.map (·.2))) := own_apart Ho7.out hga' fun g h1 h2 => (apt_types Ho7.out Ho6.out (by decide)) g h1 h2
            have f2 : wa.cell? ⟨bg, og + i * 6 + 2, none⟩ = some (str gi) := (hb6.cell (p := ⟨bg, og + i * 6 + 2, none⟩) hbg).trans e2
            have hbga : bg < wa.heap.size := by omega
            obtain ⟨v7, w7, hrun7, ho7', hg7, -⟩ := run_app_el (P := Try.prog) (enc := stL) stL_len stL_one (by omega) Try.underlying51 info_st rfl (by omega) wa w3.heap.size S.length (.slice A7 S.length c7) (S.map (·.2)) gi #[str gi] rfl ho76 (by omega) (by omega)
            have hg7' : wa.grownBy w7 (Value.slice A7 S.length c7).ownBlock := (World.grownBy_alloc wa _ _).trans hg7
            have ho67 := own_apart ho6' hg7' fun g h1 h2 => (apt_types ho6' ho76 (by decide)) g h1 h2
            have hb7 : Below w3.heap.size wa w7 := (Below.refl _ _).grown hg7' (by omega) fun g hg => (World.ownsRow.lt ho76 g hg).1
            have hnd : ((S ++ [(i, gi)]).map (·.1)).Nodup := by
              rw [List.map_append, List.nodup_append]
              refine ⟨HS3.out, by simp, ?_⟩
              intro x hx y hy
              obtain ⟨z, hz, rfl⟩ := List.mem_map.1 hx
              have e : y = i := by simpa using hy
              rw [e]
              have := (HS2.out z hz).1
              omega
            have Hnext := Lib.hid (show TmA w3 n (n - (i + 1)) va v7 (.int .i64 ((i + 1 : Nat) : Int)) w7 from ⟨i + 1, S ++ [(i, gi)], rfl, by omega, rfl, by simp; omega, fun x hx => by
              rcases List.mem_append.1 hx with hx | hx
              · exact ⟨by have := (HS2.out x hx).1; omega, (HS2.out x hx).2⟩
              · have e : x = (i, gi) := by simpa using hx
                rw [e]; exact ⟨by simp only; omega, hidl⟩, hnd, by rw [List.length_append, List.map_append]; exact ho67, by rw [List.length_append, List.map_append]; exact ho7', (Hbe.out.trans (hb6.mono (Nat.le_refl _))).trans hb7⟩)
            have Hruna := Lib.hid hruna
            have Hrun7 := Lib.hid hrun7
            clear hruna hrun7 ho6' hb6 hoa hga hga' ho76 ho7' hg7 hg7' ho67 hb7 hnd Hskip hidl
            go_wp2_with (first | (at_builtin; refine bx_app rfl _ _ _ rfl _ _ (by rfl) (by rfl) Hruna.out ?_; clear Hruna) | (at_builtin; refine bx_app rfl _ _ _ rfl _ _ (by rfl) (by rfl) Hrun7.out ?_; clear Hrun7) | fail)
            go_roundg (n - (i + 1))
            case measure => have := Hgk.out; omega
            case rel => exact Hnext.out
          · have hsi : ¬ (S.length : Int) < 10 := by omega
            go_wp2_with fail
            go_roundg (n - (i + 1))
            case measure => have := Hgk.out; omega
            case rel => exact Hskip.out
        · have hc1 : (gc == 0) = false := by simpa using hc
          go_wp2_with fail
          go_roundg (n - (i + 1))
          case measure => have := Hgk.out; omega
          case rel => exact Hskip.out
      · have hk1 : (ak == 3) = false := by simpa using hk
        go_wp2_with fail
        go_roundg (n - (i + 1))
        case measure => have := Hgk.out; omega
        case rel => exact Hskip.out
    · have hii : ¬ (i : Int) < (n : Int) := by omega
      have hlm := Lib.hid (mail_R S (fun x hx => (HS2.out x hx).2) HS3.out HS1.out)
      obtain ⟨v6, w6, hrun6, ho6', hb6⟩ := post_more Ho6.out (Below.refl w3.heap.size wr) hszw ptF #[.int .i64 2, .string ⟨#[]⟩, .int .i64 0, .string ⟨#[]⟩, .int .i64 0] rfl (by have := HS1.out; omega)
      have hokP : ∀ p ∈ S.map sP ++ [ptF], PtOk p := fun p hp => by
        rcases List.mem_append.1 hp with hp | hp
        · obtain ⟨x, hx, rfl⟩ := List.mem_map.1 hp
          exact ⟨by simp [sP], by have := (HS2.out x hx).2; simp only [sP]; omega⟩
        · have e : p = ptF := by simpa using hp
          rw [e]; simp [PtOk, ptF]
      obtain ⟨va, wa, hruna, hoa, hga, -⟩ := run_app_el (P := Try.prog) (enc := ptL) ptL_len ptL_one (by omega) Try.underlying30 info_post rfl (by omega) wr w3.heap.size S.length u6 (S.map sP) ptF #[.int .i64 2, .string ⟨#[]⟩, .int .i64 0, .string ⟨#[]⟩, .int .i64 0] rfl Ho6.out (by have := HS1.out; omega) hszw
      rw [hruna] at hrun6
      injection hrun6 with q1 q2
      subst q1 q2
      have hga' : wr.grownBy wa u6.ownBlock := (World.grownBy_alloc wr _ _).trans hga
      have ho76 : wa.ownsRow w3.heap.size 9 1 (.slice A7 S.length c7) S.length (pcK stL (S.map (·.2))) := own_apart Ho7.out hga' fun g h1 h2 => (apt_types Ho7.out Ho6.out (by decide)) g h1 h2
      have hlW : (S.map (·.2)).length = S.length := by simp
      obtain ⟨A7', c7', hv7', hin7⟩ := LIn.own stL_len (by rw [hlW]; exact ho76)
      injection hv7' with r1 _ r3
      subst r1 r3
      rw [hlW] at hin7
      have hlP : (S.map sP ++ [ptF]).length = S.length + 1 := by simp
      have Hlm := hlm
      obtain ⟨A6, c6, hv6, hin6⟩ := LIn.own ptL_len (by rw [hlP]; exact ho6')
      subst hv6
      rw [hlP] at hin6
      simp only [hlP] at hruna
      obtain ⟨v8, w8, hrun8, ho8, hb8⟩ := posts_copy hin6 (Nat.le_refl _) (by have := HS1.out; omega)
      obtain ⟨A8, c8, hv8, hin8⟩ := LIn.own ptL_len (by rw [hlP]; exact ho8)
      subst hv8
      rw [hlP] at hin8
      simp only [hlP] at hrun8
      have hbw8 : Below w.heap.size w w8 := ((B3.out.trans (Hbe.out.mono B3.out.size)).trans (hb6.mono B3.out.size)).trans (hb8.mono (by have := B3.out.size; have := hb6.size; omega))
      have HB := Lib.hid (bplay_any A8 (S.length + 1) c8 w8.heap.size _ w8 hin8 (Nat.le_refl _) (by have := HS1.out; omega) (Hg.out.below hbw8) hokP)
      have hpB : playB (S.map sP ++ [ptF]) = ((gotsB bs0 (S.map sP ++ [ptF])).1, 0) := by unfold playB; rw [if_neg (by rw [hlP]; have := HS1.out; omega)]
      unfold BPost at HB
      rw [hpB] at HB
      simp only [gotsB_len, hlP] at HB
      have HGl : Hid ((gotsB bs0 (S.map sP ++ [ptF])).1.length = S.length + 1) := Lib.hid (by rw [gotsB_len, hlP])
      generalize (gotsB bs0 (S.map sP ++ [ptF])).1 = G at *
      have Hruna := Lib.hid hruna
      have Hrun8 := Lib.hid hrun8
      have Hin7 := Lib.hid ((hin7.below hb8).wider hb8.size)
      have Hbw8 := Lib.hid hbw8
      have hs10 : S.length ≤ 10 := HS1.out
      have Hm := Lib.hid (show (mlF 0 (S.map sP)).length = S.length by rw [mlF_len, List.length_map])
      have Hmg := Lib.hid (fun i (hi : i < (S.map sP).length) => mlF_get 0 (S.map sP) i hi)
      clear hruna hrun8 ho6' hb6 hoa hga hga' ho76 hin7 hin6 ho8 hb8 hin8 hbw8 hpB hlP hlW hokP hii hlm Ho6 Ho7 HId HS1 HS2 HS3 Hin3 Hin13 Hbe Hgk
      obtain ⟨m, hm⟩ : ∃ m, S.length = m := ⟨_, rfl⟩
      rw [hm] at HB HGl Hlm Hin7 hs10 Hm Hruna Hrun8
      rw [hm]
      have Hmm := Lib.hid hm
      clear hm
      go_wp2_with (first | (at_builtin; refine bx_app rfl _ _ _ rfl _ _ (by rfl) (by rfl) Hruna.out ?_; clear Hruna) | (at_builtin; refine bx_app rfl _ _ _ rfl _ _ (by rfl) (by rfl) Hrun8.out ?_; clear Hrun8) | fail)
      refine HB.out.mono ?_
      rintro e w9 ⟨A9, c9, rfl, hin9, b9⟩
      have Hin9 := Lib.hid hin9
      have Hin79 := Lib.hid ((Hin7.out.below b9).wider b9.size)
      have Hb9 := Lib.hid (Hbw8.out.trans (b9.mono Hbw8.out.size))
      clear hin9 b9 HB Hin7
      obtain ⟨W, hW⟩ : ∃ W, w9.alloc (.cells #[.int .i64 1, .string ⟨#[64, 97, 58, 120]⟩, .int .i64 0, .string ⟨#[120]⟩, .int .i64 0, .int .i64 2, .string ⟨#[]⟩, .int .i64 0, .string ⟨#[]⟩, .int .i64 0] 43) = W := ⟨_, rfl⟩
      have hWb : Below w9.heap.size w9 W := by rw [← hW]; exact (Below.refl _ _).alloc (Nat.le_refl _) _
      have hWB := Blk.new w9 43 #[.int .i64 1, .string ⟨#[64, 97, 58, 120]⟩, .int .i64 0, .string ⟨#[120]⟩, .int .i64 0, .int .i64 2, .string ⟨#[]⟩, .int .i64 0, .string ⟨#[]⟩, .int .i64 0]
      rw [hW] at hWB
      have hlit : LIn ptL 5 W W.heap.size (some ⟨w9.heap.size, 0, none⟩) 2 2 [⟨1, [64, 97, 58, 120], 0, [120], 0⟩, ptF] := by
        refine ⟨rfl, by omega, (fun h => by cases h), rfl, fun _ => ⟨w9.heap.size, 0, rfl, hWB.lt, fun j u hu => ?_⟩⟩
        rw [Nat.zero_add, hWB.cell j]
        simpa [pcK, ptL, ptF, str] using hu
      have HQ := Lib.hid (bplay_any _ 2 2 W.heap.size _ W hlit (Nat.le_refl _) (by omega) (Hg.out.below (Hb9.out.trans (hWb.mono Hb9.out.size))) (by intro p hp; simp at hp; rcases hp with rfl | rfl <;> simp [PtOk, ptF]))
      unfold BPost at HQ
      rw [pt_twoX] at HQ
      have HWb := Lib.hid hWb
      clear hlit hWb hWB
      go_wp2_with fail
      refine HQ.out.mono ?_
      rintro e wq ⟨Aq, cq, rfl, hinq, bq⟩
      obtain ⟨b3, off3, Am, cm, hAq, hbb3, -, -, -, hd⟩ := hinq.at_ (i := 1) (by simp)
      subst hAq
      replace hd : wq.cell? ⟨b3, off3 + 1 * 3 + 2, none⟩ = some (.slice Am 1 cm) := hd
      rw [show off3 + 1 * 3 + 2 = off3 + 5 by omega] at hd
      have hb9q := HWb.out.trans (bq.mono HWb.out.size)
      have hmG : m < G.length := by rw [HGl.out]; omega
      obtain ⟨bg, og, Ag, cg, hA9, hbg, hml, e0, e1, e2⟩ := (Hin9.out.below hb9q).at_ (i := m) hmG
      subst hA9
      have hGm := Hlm.out
      rw [List.getElem?_eq_getElem hmG] at hGm
      injection hGm with hGm
      rw [hGm] at hml e0 e1 e2
      simp only at hml e0 e1 e2
      rw [Hm.out] at hml e2
      have Hml := Lib.hid ((hml.wider hb9q.size))
      have Hin7q := Lib.hid ((Hin79.out.below hb9q).wider hb9q.size)
      have Hbq := Lib.hid (Hb9.out.trans (hb9q.mono Hb9.out.size))
      have hwm : IntKind.i64.wrap (((m + 1 : Nat) : Int) - 1) = (m : Int) := by rw [IntWalk.i64_in _ (by omega)]; omega
      have hm1 : (((m + 1 : Nat) : Int) != ((m + 1 : Nat) : Int)) = false := by simp
      have hm2 : ((m : Int) != (m : Int)) = false := by simp
      have hmi : (m : Int) < ((m + 1 : Nat) : Int) := by omega
      have hbgq : bg < wq.heap.size := Nat.lt_of_lt_of_le hbg hb9q.size
      clear hinq bq hb9q hml hGm HQ Hin9 Hin79 HWb Hlm
      dsimp only [List.length_cons, List.length_nil]
      go_wp2_with fail
      go_loopg [14] m (TmB wq m)
      case atStart => exact ⟨0, 0, rfl, Nat.zero_le _, by omega, rfl⟩
      case round =>
        obtain ⟨j, q, rfl, hj, hgk2, rfl⟩ := hrel
        have Hgk2 := Lib.hid hgk2
        clear hgk2
        by_cases hjm : j < m
        · have hji : (j : Int) < (m : Int) := by omega
          have hjS : j < S.length := by rw [Hmm.out]; exact hjm
          obtain ⟨bc, oc, hAg, hbc, f0, f1, f2⟩ := ml_at Hml.out (i := j) (by rw [Hm.out]; exact hjm)
          obtain ⟨bd, od, hA7, hbd, g0⟩ := st_at Hin7q.out (i := j) (by rw [List.length_map]; exact hjS)
          subst hAg hA7
          have hgj := Hmg.out j (by rw [List.length_map]; exact hjS)
          rw [List.getElem?_eq_getElem (by rw [Hm.out]; exact hjm)] at hgj
          injection hgj with hgj
          rw [hgj] at f0 f2
          rw [List.getElem_map] at g0
          simp only [List.getElem_map, sP, Nat.zero_add] at f0 f2
          generalize S[j].2 = bo at *
          have hb1 : (!(bo == bo)) = false := by simp
          have hb2 : ((j : Int) + 1 != (j : Int) + 1) = false := by simp
          have hwj : IntKind.i64.wrap ((j : Int) + 1) = (j : Int) + 1 := IntWalk.i64_in _ (by omega)
          clear hgj
          go_wp2_with fail
          go_quiet (fail)
          go_wp2_with fail
          go_roundg (m - (j + 1))
          case measure => have := Hgk2.out; omega
          case rel => exact ⟨j + 1, _, by go_num, by omega, rfl, rfl⟩
        · have hji : ¬ (j : Int) < (m : Int) := by omega
          go_wp2_with fail
          go_ret
          exact ⟨rfl, below_drewN Hbq.out _⟩
namespace topMail
open Go.ChangeShapes Go.WideShapes Go.ChangeAt Go.RowKit
theorem own : ownKnob Try.prog.godebug = none := by kernel_rfl
theorem laidOut : laidOutB Try.prog = true := by kernel_rfl
set_option linter.unusedVariables false
set_option maxRecDepth 100000 in
theorem lifted (os : Os) (started : os.Started) (H : Type) (enc : TypeId × Value → H) :
    ReturnsInHanded {} Try.checked os 10 .any (Rows.topMailSpec.pre6 enc Try.prog Try.f10 Rows.topMailRow.domain false) (Rows.topMailSpec.post enc Try.prog Try.f10 false true false false) := by
  refine returnsInHanded_of_change_shaped (C := Try.checked) own started (by kernel_rfl) Try.func10
    (ChangeSpec.witness6 (enc := enc) (C := Try.checked) false ⟨#[], #[.slice none 0 0], []⟩ 8 (by kernel_rfl) (by kernel_rfl) (by kernel_rfl) (by kernel_rfl)) ?_
  intro W base args ds gs before hval0 hW hcnd _ hsh0 _
  have hsh : W.ShapedOpen Try.prog := hsh0
  have hval : ∀ (j : Nat) t v, Try.f10.params[j]? = some t → args[j]? = some v → Value.okWide Try.prog W .any base t v := hval0
  have hW' := hW
  obtain ⟨p, q, hA0, hV, rfl, hfz, hnd⟩ := hW
  have hA : DataW.TrodAll enc Try.prog W 0 (fun _ => true) true Try.f10.params.toList args.toList ds p := hA0
  rw [Try.params10] at hA hval
  obtain ⟨v0, vs0, d0, ds0, p0, q0, hargs, rfl, rfl, h0, rr0⟩ := trodAll_cons hA
  obtain ⟨rfl, rfl, rfl⟩ := trodAll_nil rr0
  obtain rfl : args = #[v0] := by cases args; simp_all
  obtain ⟨rfl, rfl⟩ := trodVars_none hV
  have k0 := h0
  have lt0 : ∀ x ∈ p0, x.block < W.heap.size := by obtain ⟨m, hm⟩ := k0; exact DataW.trod_lt m _ _ _ hm
  obtain ⟨A0, n0, c0, rfl, hx0⟩ := open_intsl Try.underlying40 Try.underlying3 (by kernel_rfl) (hval 0 40 v0 rfl rfl) h0
  clear hA0 hval0
  refine (walkTopMail A0 n0 c0 W hx0 hsh).mono fun e W' ⟨he, bel⟩ => ?_
  subst he
  exact ⟨_, rfl, _, _, _, [], _, [], hW', trodAll_mk1 (shut_bool Try.underlying4 _), (trodAll_cons_mk (Below.trod laidOut (by kernel_rfl) (of_decide_eq_true (by kernel_rfl)) k0 bel lt0) trodAll_mk0), rfl, bel.frame _, fun h => by cases h⟩

theorem over : Rows.topMailRow.holds Try.pinned (OpenSpec.ofChange Rows.topMailSpec) :=
  OpenClaim.holds_of_wide 10 Try.f10 rfl rfl rfl rfl rfl rfl rfl ⟨rfl, rfl, rfl, rfl, rfl⟩ rfl rfl rfl rfl rfl (by kernel_rfl) Try.func10 (by kernel_rfl)
    (of_decide_eq_true (by kernel_rfl)) (by unfold Func.isWrapper; first | (rw [if_pos (by decide +kernel)]; kernel_rfl) | (rw [if_neg (by decide +kernel)]; exact ⟨rfl, rfl⟩))
    (fun os started H enc _ => lifted os started H enc)

theorem proved : Rows.TopMailSaid := over
#print axioms proved
end topMail
end Go.Proofs.Ytgckihglgnbaoaa
