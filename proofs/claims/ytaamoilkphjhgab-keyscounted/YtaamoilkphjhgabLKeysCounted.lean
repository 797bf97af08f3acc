/- Proved here: a client that counts the keys it has left and claimed knows how many are left of each Sort (statement KeysCounted). No condition. -/
import Derived.Test.YtaamoilkphjhgabKyCe
import Derived.Test.YtaamoilkphjhgabKyCd
import Derived.Test.YtaamoilkphjhgabKyCn
import Derived.Test.YtaamoilkphjhgabKyHas
import Derived.Test.YtaamoilkphjhgabOpenI
import Derived.Test.YtaamoilkphjhgabBunQ
import Derived.HandedShaped
import Derived.Deep.QuietTactic
import Derived.BigQuiet
namespace Go.Proofs.Ytaamoilkphjhgab
set_option linter.unusedVariables false
set_option linter.unusedSimpArgs false
open Go.RowKit
attribute [local go_sem high] str_mk
def CtI (W : World) (l : List Ak) (n : Nat) (gk : Nat) (s8 : Value) (wr : World) : Prop :=
  ∃ (i : Nat) (K : Bool → Int) (Hd : Bool → List Int) (V : Bool → Value), s8 = .int .i64 (i : Int) ∧ i ≤ n ∧ gk = n - i ∧ CtP l i K Hd ∧ (∀ S, (Hd S).length ≤ i) ∧ CtM W.heap.size wr K Hd V ∧ Below W.heap.size W wr
theorem upd_len {Hd : Bool → List Int} {i : Nat} (h : ∀ S, (Hd S).length ≤ i) (S : Bool) (z : Int) : ∀ T, (upd Hd S (Hd S ++ [z]) T).length ≤ i + 1 := by
  intro T
  by_cases e : T = S
  · subst e; rw [upd_same]; have := h T; simp; omega
  · rw [upd_other _ _ _ _ e]; have := h T; omega
set_option maxHeartbeats 8000000 in
set_option maxRecDepth 100000 in
theorem walkKeysCounted (A0 : Option Addr) (n0 c0 : Nat) (w : World) (hx0 : IntsAt w w.heap.size A0 n0 c0) (hsh : w.ShapedOpen Try.prog) :
    Calls Try.prog 5 #[.slice A0 n0 c0] w fun e w' => e = .returned (.bool true) ∧ Below w.heap.size w w' := by
  have hg := Gl.of hsh
  have H1 := Lib.hid (asks_any A0 n0 c0 w.heap.size 80 w hx0 (Nat.le_refl _) (by decide))
  have Hg := Lib.hid hg
  clear hx0 hsh hg
  go_enter Try.func5, Try.ntmps5
  go_wp2_with fail
  refine H1.out.mono ?_
  rintro e w1 ⟨v1, l, rfl, ho1, hlen, hok, b1⟩
  obtain ⟨A1, c1, rfl, hin1⟩ := LIn.own akL_len ho1
  have H2 := Lib.hid (given_any A1 l.length c1 _ l w1 hin1 (by omega) (Hg.out.below b1) (fun a ha => okA_ok (hok a ha)))
  have hrl := asksR_len l ks0
  have HSt := Lib.hid (fun (i : Nat) (K : Bool → Int) (Hd : Bool → List Int) (h : CtP l i K Hd) (hi : i < l.length) (S : Bool) (hS : l[i].sort = srtT S) (hk : l[i].kind = 1 ∨ l[i].kind = 2 ∨ l[i].kind = 3 ∨ l[i].kind = 4) (g : Gv) (hg : (asksR ks0 l).1[i]? = some g) => ct_step h hi hS hk hg)
  have HOk := Lib.hid hok
  have H0 := Lib.hid (ctP0 l)
  unfold GvnPost at H2
  obtain ⟨n, hn⟩ : ∃ n, l.length = n := ⟨_, rfl⟩
  rw [hn] at hrl hin1 H2 ⊢
  generalize (asksR ks0 l).1 = R at *
  have Hin1 := Lib.hid hin1
  have Hn := Lib.hid hn
  have Hrl := Lib.hid hrl
  have B1 := Lib.hid b1
  have hn80 : n ≤ 80 := by omega
  clear ho1 hlen hok b1 hin1 hn hrl H1
  go_wp2_with fail
  refine H2.out.mono ?_
  rintro e w2 ⟨A2, c2, rfl, hin2, b2⟩
  have Hin2 := Lib.hid hin2
  have Hin12 := Lib.hid ((Hin1.out.below b2).wider b2.size)
  have B2 := Lib.hid (below_tail B1.out b2 B1.out.size)
  clear hin2 b2 H2 Hin1
  go_wp2_with fail
  go_loopg [8] n (CtI w2 l n)
  case atStart => exact ⟨0, _, _, _, rfl, Nat.zero_le _, by omega, H0.out, by simp, ctM0 w2 (fun _ => 0) (fun _ => rfl), ((Below.refl _ _).alloc (Nat.le_refl _) _).alloc (by simp) _⟩
  case round =>
    obtain ⟨i, K, Hd, V, rfl, hi, hgk, hct, hdl, hm, hbe⟩ := hrel
    have Hgk := Lib.hid hgk
    have Hbe := Lib.hid hbe
    have Hct := Lib.hid hct
    have Hdl := Lib.hid hdl
    have Hm := Lib.hid hm
    clear hgk hbe hct hdl hm
    by_cases hin : i < n
    · have hii : (i : Int) < (n : Int) := by omega
      have hil : i < l.length := by rw [Hn.out]; exact hin
      have hir : i < R.length := by rw [Hrl.out]; exact hin
      obtain ⟨b, off, hA, hbB, d0, d1, -, -, d4⟩ := ask_at (Hin12.out.below Hbe.out) hil
      obtain ⟨b', off', hA', hbB', e0, -, -, e4, e5, -⟩ := gvn_at (Hin2.out.below Hbe.out) hir
      subst hA hA'
      have hbw : b < wr.heap.size := Nat.lt_of_lt_of_le hbB Hbe.out.size
      have hbw' : b' < wr.heap.size := Nat.lt_of_lt_of_le hbB' Hbe.out.size
      have hne : b ≠ w2.heap.size := by omega
      have hne' : b' ≠ w2.heap.size := by omega
      have hsz := Hm.out.size
      have HS := Lib.hid (fun S hS hk => HSt.out i K Hd Hct.out hil S hS hk R[i] (List.getElem?_eq_getElem hir))
      have hOA := HOk.out _ (List.getElem_mem hil)
      obtain ⟨⟨ak, asrt, aid, abo, aby⟩, hla⟩ : ∃ a, l[i] = a := ⟨_, rfl⟩
      obtain ⟨⟨gc, gi, gb, gs, gm⟩, hlg⟩ : ∃ g, R[i] = g := ⟨_, rfl⟩
      rw [hla] at d0 d1 d4 HS hOA
      rw [hlg] at e0 e4 e5 HS
      have Hla := Lib.hid hla
      have Hlg := Lib.hid hlg
      clear hla hlg
      simp only at d0 d1 d4 e0 e4 e5 HS
      have hkd : ak = 1 ∨ ak = 2 ∨ ak = 3 ∨ ak = 4 := by
        obtain ⟨-, h⟩ := hOA
        rcases h with ⟨h | h, -⟩ | ⟨h, -⟩ | ⟨h, -⟩
        · exact .inl h
        · exact .inr (.inl h)
        · exact .inr (.inr (.inl h))
        · exact .inr (.inr (.inr h))
      have hsr : asrt = [101, 100] ∨ asrt = [99, 117] := hOA.1
      clear hOA
      rcases hsr with rfl | rfl
      · have HT := Lib.hid (HS.out false rfl hkd)
        clear HS
        have m0 : wr.cell? ⟨w2.heap.size, 0, none⟩ = some (.int .i64 (K false)) := Hm.out.cellM false
        have hf0 := Hm.out.many.frozen 0
        obtain ⟨x, hx⟩ : ∃ x, K false = x := ⟨_, rfl⟩
        rw [hx] at m0
        have Hx := Lib.hid hx
        clear hx
        by_cases hc : gc = 0
        · subst hc
          rcases hkd with rfl | rfl | rfl | rfl
          · -- leave
            obtain ⟨y, hy⟩ : ∃ y, x + 1 = y := ⟨_, rfl⟩
            obtain ⟨p1, p2, p3, p4⟩ := HT.out.leave rfl rfl (upd K false y) (upd_other _ _ _) (by rw [upd_same, Hx.out]; exact hy.symm)
            rw [upd_same] at p2 p3 p4
            simp only at p2
            have hw : IntKind.i64.wrap (x + 1) = y := by rw [hy]; exact IntWalk.i64_in _ (by omega)
            have P1 := Lib.hid p1
            have hm2 := Hm.out.setM false y
            have hb2 : Below w2.heap.size w2 (wr.setCell ⟨w2.heap.size, 0, none⟩ (.int .i64 y)) := Hbe.out.setCell (p := ⟨w2.heap.size, 0, none⟩) (Nat.le_refl _) _
            obtain ⟨wz, hwz⟩ : ∃ wz, wr.setCell ⟨w2.heap.size, 0, none⟩ (.int .i64 y) = wz := ⟨_, rfl⟩
            have hm2 : CtM w2.heap.size wz (upd K false y) Hd V := by rw [← hwz]; exact hm2
            rw [hwz] at hb2
            have z0 : wz.cell? ⟨w2.heap.size, 0, none⟩ = some (.int .i64 y) := by have := hm2.cellM false; rwa [upd_same] at this
            obtain ⟨-, -, -, -, z5, -⟩ := gvn_at' (Hin2.out.below hb2) hir
            rw [Hlg.out] at z5
            simp only at z5
            rw [p2] at z5
            have Hm2 := Lib.hid hm2
            have Hb2 := Lib.hid hb2
            have hy0 : ¬ y < 0 := by omega
            have hy1 : ¬ 12 < y := by omega
            have hy2 : decide (y < 0) = false := by simpa using hy0
            have hy3 : decide (12 < y) = false := by simpa using hy1
            have Hy := Lib.hid hy
            clear p1 p2 p3 p4 hm2 hb2 hy e4 e5 d4
            go_wp2_with fail
            go_quiet (fail)
            go_wp2_with fail
            go_roundg (n - (i + 1))
            case measure => have := Hgk.out; omega
            case rel => exact ⟨i + 1, _, Hd, V, by go_num, by omega, rfl, P1.out, fun T => by have := Hdl.out T; omega, Hm2.out.below (below_drewN (Below.refl _ _) _), below_drewN Hb2.out _⟩
          · obtain ⟨p1, p2, p3, p4⟩ := HT.out.other rfl (.inl rfl)
            rw [Hx.out] at p2 p3 p4
            simp only at p2
            rw [p2] at e5
            have P1 := Lib.hid p1
            have hy0 : ¬ x < 0 := by omega
            have hy1 : ¬ 12 < x := by omega
            have hy2 : decide (x < 0) = false := by simpa using hy0
            have hy3 : decide (12 < x) = false := by simpa using hy1
            clear p1 p2 p3 p4 e4 d4 HT
            go_wp2_with fail
            go_quiet (fail)
            go_wp2_with fail
            go_roundg (n - (i + 1))
            case measure => have := Hgk.out; omega
            case rel => exact ⟨i + 1, K, Hd, V, by go_num, by omega, rfl, P1.out, fun T => by have := Hdl.out T; omega, Hm.out.below (by first | exact below_drewN (Below.refl _ _) _ | exact below_drewN (below_drewN (Below.refl _ _) _) _ | exact below_drewN (below_drewN (below_drewN (Below.refl _ _) _) _) _), (by first | exact below_drewN Hbe.out _ | exact below_drewN (below_drewN Hbe.out _) _ | exact below_drewN (below_drewN (below_drewN Hbe.out _) _) _)⟩
          · obtain ⟨A, c, hV, -⟩ := own_form (Hm.out.row false)
            have hrow := Hm.out.row false
            rw [hV] at hrow
            have hh := Holds.own hrow
            rw [zL_map] at hh
            obtain ⟨m, hml⟩ : ∃ m, (Hd false).length = m := ⟨_, rfl⟩
            have hm80 : m ≤ 80 := by have := Hdl.out false; omega
            rw [hml] at hV hh
            have HHas := Lib.hid (fun W' (hb : Below wr.heap.size wr W') => hasInt_any A c m (Hd false) aby W' wr.heap.size (hh.below hb) hml (by omega))
            have h0 : wr.cell? ⟨w2.heap.size + 1, 0, none⟩ = some (.slice A m c) := by have := Hm.out.cellH false; rwa [hV] at this
            have hneh : b ≠ w2.heap.size + 1 := by omega
            have HV := Lib.hid hV
            have Hml := Lib.hid hml
            clear hV hrow hh hml
            by_cases hmem : aby ∈ Hd false
            · obtain ⟨p1, p2, p3, p4⟩ := HT.out.again rfl rfl hmem
              rw [Hx.out] at p2 p3 p4
              simp only at p2
              rw [p2] at e5
              have P1 := Lib.hid p1
              have HHas2 := Lib.hid (fun W' hb => by have := HHas.out W' hb; rwa [show decide (aby ∈ Hd false) = true by simpa using hmem] at this)
              have hy0 : ¬ x < 0 := by omega
              have hy1 : ¬ 12 < x := by omega
              have hy2 : decide (x < 0) = false := by simpa using hy0
              have hy3 : decide (12 < x) = false := by simpa using hy1
              clear p1 p2 p3 p4 e4 HT HHas hmem
              go_wp2_with fail
              go_quiet ((go_at_call 14; exact has_left (HHas2.out _ (below_drewN (Below.refl _ _) _))))
              go_wp2_with fail
              go_quiet (fail)
              go_wp2_with fail
              go_roundg (n - (i + 1))
              case measure => have := Hgk.out; omega
              case rel => exact ⟨i + 1, K, Hd, V, by go_num, by omega, rfl, P1.out, fun T => by have := Hdl.out T; omega, Hm.out.below (by first | exact below_drewN (Below.refl _ _) _ | exact below_drewN (below_drewN (Below.refl _ _) _) _ | exact below_drewN (below_drewN (below_drewN (Below.refl _ _) _) _) _), (by first | exact below_drewN Hbe.out _ | exact below_drewN (below_drewN Hbe.out _) _ | exact below_drewN (below_drewN (below_drewN Hbe.out _) _) _)⟩
            · have HHas2 := Lib.hid (fun W' hb => by have := HHas.out W' hb; rwa [show decide (aby ∈ Hd false) = false by simpa using hmem] at this)
              clear HHas
              go_wp2_with fail
              go_quiet ((go_at_call 14; exact has_left (HHas2.out _ (below_drewN (Below.refl _ _) _))))
              go_wp2_with fail
              obtain ⟨Wd, hWd⟩ : ∃ W, (wr.drewN nq).drew = W := ⟨_, rfl⟩
              have hbd : Below wr.heap.size wr Wd := by rw [← hWd]; exact (below_drewN (Below.refl _ _) _).drew
              have hmd := Hm.out.below hbd
              obtain ⟨v9, w9, hrun9, s8, s9, f9, hb9, hmz⟩ := hmd.push false aby HV.out (by rw [Hml.out]; omega)
              have hd4 : Wd.cell? ⟨b, off + i * 5 + 4, none⟩ = some (.int .i64 aby) := (hbd.cell hbw).trans d4
              have t8 : (Wd.alloc (.cells #[.int .i64 aby] 3)).cell? ⟨b, off + i * 5 + 4, none⟩ = some (.int .i64 aby) := (((Below.refl Wd.heap.size Wd).alloc (Nat.le_refl _) _).cell (by have := hbd.size; show b < _; omega)).trans hd4
              have t9 : w9.cell? ⟨b, off + i * 5 + 4, none⟩ = some (.int .i64 aby) := (hb9.cell (by show b < _; omega)).trans hd4
              obtain ⟨A9, c9, hv9, -⟩ := own_form (hmz.row false)
              rw [upd_same] at hv9
              obtain ⟨m9, hm9⟩ : ∃ k, (upd Hd false (Hd false ++ [aby]) false).length = k := ⟨_, rfl⟩
              rw [hm9] at hv9
              subst hv9
              clear hm9
              replace s9 : w9.cell? ⟨w2.heap.size + 1, 0, none⟩ = some (.slice A m c) := s9
              replace f9 : w9.frozen? ⟨w2.heap.size + 1, 0, none⟩ = false := f9
              have hS : Wd.cell? ⟨w2.heap.size + 1, 0, none⟩ = some (.slice A m c) ∧ Wd.cell? ⟨b, off + i * 5 + 4, none⟩ = some (.int .i64 aby) := ⟨by have := hmd.cellH false; rwa [HV.out] at this, hd4⟩
              refine region_S (fun w' => w'.cell? ⟨w2.heap.size + 1, 0, none⟩ = some (.slice A m c) ∧ w'.cell? ⟨b, off + i * 5 + 4, none⟩ = some (.int .i64 aby)) [12] (by kernel_rfl) ?_
              rw [hWd]
              refine anyS_take 0 (v := .int .i64 0) rfl (by kernel_rfl) (by kernel_rfl) (by kernel_rfl) (by kernel_rfl) (fun _ _ _ h => h) (.inl ⟨by kernel_rfl, fun w' hS' => by kernel_rfl⟩) hS ?_
              refine anyS_take 1 (v := .int .i64 0) rfl (by kernel_rfl) (by kernel_rfl) (by kernel_rfl) (by kernel_rfl) (fun _ _ _ h => h) (.inl ⟨by kernel_rfl, fun w' hS' => by kernel_rfl⟩) hS ?_
              refine anyS_take 2 (v := .pointer (some ⟨w2.heap.size + 1, 0, none⟩)) rfl (by kernel_rfl) (by kernel_rfl) (by kernel_rfl) (by kernel_rfl) (fun _ _ _ h => h) (.inl ⟨by kernel_rfl, fun w' hS' => by go_simp⟩) hS ?_
              refine anyS_take 3 (v := .slice A m c) rfl (by kernel_rfl) (by kernel_rfl) (by kernel_rfl) (by kernel_rfl) (fun _ _ _ h => h) (.inl ⟨by kernel_rfl, fun w' hS' => by obtain ⟨s1, s2⟩ := hS'; go_simp⟩) hS ?_
              refine anyS_take 4 (v := .slice (some ⟨b, off, none⟩) n c1) rfl (by kernel_rfl) (by kernel_rfl) (by kernel_rfl) (by kernel_rfl) (fun _ _ _ h => h) (.inl ⟨by kernel_rfl, fun w' hS' => by kernel_rfl⟩) hS ?_
              refine anyS_take 5 (v := .int .i64 (i : Int)) rfl (by kernel_rfl) (by kernel_rfl) (by kernel_rfl) (by kernel_rfl) (fun _ _ _ h => h) (.inl ⟨by kernel_rfl, fun w' hS' => by kernel_rfl⟩) hS ?_
              refine anyS_take 6 (v := .pointer (some ⟨b, off + i * 5, none⟩)) rfl (by kernel_rfl) (by kernel_rfl) (by kernel_rfl) (by kernel_rfl) (fun _ _ _ h => h) (.inl ⟨by kernel_rfl, fun w' hS' => by go_simp⟩) hS ?_
              refine anyS_take 7 (v := .pointer (some ⟨b, off + i * 5 + 4, none⟩)) rfl (by kernel_rfl) (by kernel_rfl) (by kernel_rfl) (by kernel_rfl) (fun _ _ _ h => h) (.inl ⟨by kernel_rfl, fun w' hS' => by go_simp⟩) hS ?_
              refine anyS_take 8 (v := .int .i64 aby) rfl (by kernel_rfl) (by kernel_rfl) (by kernel_rfl) (by kernel_rfl) (fun _ _ _ h => h) (.inl ⟨by kernel_rfl, fun w' hS' => by obtain ⟨s1, s2⟩ := hS'; go_simp⟩) hS ?_
              refine anyS_one 9 rfl (by kernel_rfl) rfl ?_
              intro K9 hK9
              go_simp
              refine hK9 _ _ ⟨fun _ => ⟨s8, t8⟩, ?_⟩
              refine anyS_one 10 rfl (by kernel_rfl) rfl ?_
              intro K10 hK10
              refine oper_app _ _ _ rfl _ _ (by rfl) (by rfl) hrun9 ?_
              refine hK10 _ _ ⟨fun _ => ⟨s9, t9⟩, ?_⟩
              refine anyS_one 11 rfl (by kernel_rfl) rfl ?_
              intro K11 hK11
              go_simp
              refine hK11 _ _ ⟨fun _ => ⟨s9, t9⟩, ?_⟩
              refine anyS_one 12 rfl (by kernel_rfl) rfl ?_
              intro K12 hK12
              go_simp
              refine hK12 _ _ ⟨fun h => absurd (List.mem_singleton.2 rfl) h, ?_⟩
              refine anyS_done (by kernel_rfl) ?_
              have hbz : Below w2.heap.size w2 (w9.setCell ⟨w2.heap.size + 1, 0, none⟩ (.slice A9 m9 c9)) := ((Hbe.out.trans (hbd.mono Hbe.out.size)).trans (hb9.mono (by omega))).setCell (p := ⟨w2.heap.size + 1, 0, none⟩) (by show w2.heap.size ≤ w2.heap.size + 1; omega) _
              have hmz2 : CtM w2.heap.size (w9.setCell ⟨w2.heap.size + 1, 0, none⟩ (.slice A9 m9 c9)) K (upd Hd false (Hd false ++ [aby])) (upd V false (.slice A9 m9 c9)) := hmz
              clear hmz
              obtain ⟨wz, hwz⟩ : ∃ W, w9.setCell ⟨w2.heap.size + 1, 0, none⟩ (.slice A9 m9 c9) = W := ⟨_, rfl⟩
              rw [hwz] at hbz hmz2 ⊢
              clear hwz
              obtain ⟨-, -, -, z4, z5, -⟩ := gvn_at' (Hin2.out.below hbz) hir
              rw [Hlg.out] at z4 z5
              simp only at z4 z5
              have mz : wz.cell? ⟨w2.heap.size, 0, none⟩ = some (.int .i64 x) := by have := hmz2.cellM false; rwa [Hx.out] at this
              have fz : wz.frozen? ⟨w2.heap.size, 0, none⟩ = false := hmz2.many.frozen 0
              have hbz' : b' < wz.heap.size := by have := hbz.size; omega
              have hgz : w2.heap.size < wz.heap.size := by have := hmz2.size; omega
              have Hmz := Lib.hid hmz2
              have Hbz := Lib.hid hbz
              clear hbz hmz2 hbd hmd hrun9 s8 s9 f9 hb9 hd4 t8 t9 hS hWd e0 e4 e5 d0 d1 d4 h0 m0 hf0
              cases gs with
              | true =>
                obtain ⟨p1, p2, p3⟩ := HT.out.spare rfl rfl hmem rfl (upd Hd false (Hd false ++ [aby])) (upd_other _ _ _) (upd_same _ _ _)
                rw [Hx.out] at p2 p3
                simp only at p2
                rw [p2] at z5
                rw [p3] at mz z5
                have P1 := Lib.hid p1
                clear p1 p2 p3 HT hmem
                go_wp2_with fail
                go_quiet (fail)
                go_wp2_with fail
                go_roundg (n - (i + 1))
                case measure => have := Hgk.out; omega
                case rel => exact ⟨i + 1, K, _, _, by go_num, by omega, rfl, P1.out, upd_len Hdl.out false aby, Hmz.out.below (by first | exact below_drewN (Below.refl _ _) _ | exact below_drewN (below_drewN (Below.refl _ _) _) _ | exact below_drewN (below_drewN (below_drewN (Below.refl _ _) _) _) _), (by first | exact below_drewN Hbz.out _ | exact below_drewN (below_drewN Hbz.out _) _ | exact below_drewN (below_drewN (below_drewN Hbz.out _) _) _)⟩
              | false =>
                obtain ⟨y, hy⟩ : ∃ y, x - 1 = y := ⟨_, rfl⟩
                obtain ⟨p1, p2, p3, p4⟩ := HT.out.fresh rfl rfl hmem rfl (upd Hd false (Hd false ++ [aby])) (upd_other _ _ _) (upd_same _ _ _) (upd K false y) (upd_other _ _ _) (by rw [upd_same, Hx.out]; exact hy.symm)
                rw [upd_same] at p2 p3 p4
                simp only at p2
                have hw : IntKind.i64.wrap (x - 1) = y := by rw [hy]; exact IntWalk.i64_in _ (by omega)
                have P1 := Lib.hid p1
                have hm2 := Hmz.out.setM false y
                have hb2 : Below w2.heap.size w2 (wz.setCell ⟨w2.heap.size, 0, none⟩ (.int .i64 y)) := Hbz.out.setCell (p := ⟨w2.heap.size, 0, none⟩) (Nat.le_refl _) _
                obtain ⟨wy, hwy⟩ : ∃ wy, wz.setCell ⟨w2.heap.size, 0, none⟩ (.int .i64 y) = wy := ⟨_, rfl⟩
                have hm2 : CtM w2.heap.size wy (upd K false y) (upd Hd false (Hd false ++ [aby])) (upd V false (.slice A9 m9 c9)) := by rw [← hwy]; exact hm2
                rw [hwy] at hb2
                have y0 : wy.cell? ⟨w2.heap.size, 0, none⟩ = some (.int .i64 y) := by have := hm2.cellM false; rwa [upd_same] at this
                obtain ⟨-, -, -, -, y5, -⟩ := gvn_at' (Hin2.out.below hb2) hir
                rw [Hlg.out] at y5
                simp only at y5
                rw [p2] at y5
                have Hm2 := Lib.hid hm2
                have Hb2 := Lib.hid hb2
                have hy0 : ¬ y < 0 := by omega
                have hy1 : ¬ 12 < y := by omega
                have hy2 : decide (y < 0) = false := by simpa using hy0
                have hy3 : decide (12 < y) = false := by simpa using hy1
                have Hy := Lib.hid hy
                clear p1 p2 p3 p4 hm2 hb2 hy z5 HT hmem
                go_wp2_with fail
                go_quiet (fail)
                go_wp2_with fail
                go_roundg (n - (i + 1))
                case measure => have := Hgk.out; omega
                case rel => exact ⟨i + 1, _, _, _, by go_num, by omega, rfl, P1.out, upd_len Hdl.out false aby, Hm2.out.below (by first | exact below_drewN (Below.refl _ _) _ | exact below_drewN (below_drewN (Below.refl _ _) _) _ | exact below_drewN (below_drewN (below_drewN (Below.refl _ _) _) _) _), (by first | exact below_drewN Hb2.out _ | exact below_drewN (below_drewN Hb2.out _) _ | exact below_drewN (below_drewN (below_drewN Hb2.out _) _) _)⟩
          · obtain ⟨p1, p2, p3, p4⟩ := HT.out.other rfl (.inr rfl)
            rw [Hx.out] at p2 p3 p4
            simp only at p2
            rw [p2] at e5
            have P1 := Lib.hid p1
            have hy0 : ¬ x < 0 := by omega
            have hy1 : ¬ 12 < x := by omega
            have hy2 : decide (x < 0) = false := by simpa using hy0
            have hy3 : decide (12 < x) = false := by simpa using hy1
            clear p1 p2 p3 p4 e4 d4 HT
            go_wp2_with fail
            go_quiet (fail)
            go_wp2_with fail
            go_roundg (n - (i + 1))
            case measure => have := Hgk.out; omega
            case rel => exact ⟨i + 1, K, Hd, V, by go_num, by omega, rfl, P1.out, fun T => by have := Hdl.out T; omega, Hm.out.below (by first | exact below_drewN (Below.refl _ _) _ | exact below_drewN (below_drewN (Below.refl _ _) _) _ | exact below_drewN (below_drewN (below_drewN (Below.refl _ _) _) _) _), (by first | exact below_drewN Hbe.out _ | exact below_drewN (below_drewN Hbe.out _) _ | exact below_drewN (below_drewN (below_drewN Hbe.out _) _) _)⟩
        · have P1 := Lib.hid (HT.out.bad hc)
          have hc1 : (gc == 0) = false := by simpa using hc
          clear HT hc e4 e5 d4
          go_wp2_with fail
          go_roundg (n - (i + 1))
          case measure => have := Hgk.out; omega
          case rel => exact ⟨i + 1, K, Hd, V, by go_num, by omega, rfl, P1.out, fun T => by have := Hdl.out T; omega, Hm.out, Hbe.out⟩
      · have HT := Lib.hid (HS.out true rfl hkd)
        clear HS
        have m1 : wr.cell? ⟨w2.heap.size, 1, none⟩ = some (.int .i64 (K true)) := Hm.out.cellM true
        have hf0 := Hm.out.many.frozen 1
        obtain ⟨x, hx⟩ : ∃ x, K true = x := ⟨_, rfl⟩
        rw [hx] at m1
        have Hx := Lib.hid hx
        clear hx
        by_cases hc : gc = 0
        · subst hc
          rcases hkd with rfl | rfl | rfl | rfl
          · -- leave
            obtain ⟨y, hy⟩ : ∃ y, x + 1 = y := ⟨_, rfl⟩
            obtain ⟨p1, p2, p3, p4⟩ := HT.out.leave rfl rfl (upd K true y) (upd_other _ _ _) (by rw [upd_same, Hx.out]; exact hy.symm)
            rw [upd_same] at p2 p3 p4
            simp only at p2
            have hw : IntKind.i64.wrap (x + 1) = y := by rw [hy]; exact IntWalk.i64_in _ (by omega)
            have P1 := Lib.hid p1
            have hm2 := Hm.out.setM true y
            have hb2 : Below w2.heap.size w2 (wr.setCell ⟨w2.heap.size, 1, none⟩ (.int .i64 y)) := Hbe.out.setCell (p := ⟨w2.heap.size, 1, none⟩) (Nat.le_refl _) _
            obtain ⟨wz, hwz⟩ : ∃ wz, wr.setCell ⟨w2.heap.size, 1, none⟩ (.int .i64 y) = wz := ⟨_, rfl⟩
            have hm2 : CtM w2.heap.size wz (upd K true y) Hd V := by rw [← hwz]; exact hm2
            rw [hwz] at hb2
            have z1 : wz.cell? ⟨w2.heap.size, 1, none⟩ = some (.int .i64 y) := by have := hm2.cellM true; rwa [upd_same] at this
            obtain ⟨-, -, -, -, z5, -⟩ := gvn_at' (Hin2.out.below hb2) hir
            rw [Hlg.out] at z5
            simp only at z5
            rw [p2] at z5
            have Hm2 := Lib.hid hm2
            have Hb2 := Lib.hid hb2
            have hy0 : ¬ y < 0 := by omega
            have hy1 : ¬ 12 < y := by omega
            have hy2 : decide (y < 0) = false := by simpa using hy0
            have hy3 : decide (12 < y) = false := by simpa using hy1
            have Hy := Lib.hid hy
            clear p1 p2 p3 p4 hm2 hb2 hy e4 e5 d4
            go_wp2_with fail
            go_quiet (fail)
            go_wp2_with fail
            go_roundg (n - (i + 1))
            case measure => have := Hgk.out; omega
            case rel => exact ⟨i + 1, _, Hd, V, by go_num, by omega, rfl, P1.out, fun T => by have := Hdl.out T; omega, Hm2.out.below (below_drewN (Below.refl _ _) _), below_drewN Hb2.out _⟩
          · obtain ⟨p1, p2, p3, p4⟩ := HT.out.other rfl (.inl rfl)
            rw [Hx.out] at p2 p3 p4
            simp only at p2
            rw [p2] at e5
            have P1 := Lib.hid p1
            have hy0 : ¬ x < 0 := by omega
            have hy1 : ¬ 12 < x := by omega
            have hy2 : decide (x < 0) = false := by simpa using hy0
            have hy3 : decide (12 < x) = false := by simpa using hy1
            clear p1 p2 p3 p4 e4 d4 HT
            go_wp2_with fail
            go_quiet (fail)
            go_wp2_with fail
            go_roundg (n - (i + 1))
            case measure => have := Hgk.out; omega
            case rel => exact ⟨i + 1, K, Hd, V, by go_num, by omega, rfl, P1.out, fun T => by have := Hdl.out T; omega, Hm.out.below (by first | exact below_drewN (Below.refl _ _) _ | exact below_drewN (below_drewN (Below.refl _ _) _) _ | exact below_drewN (below_drewN (below_drewN (Below.refl _ _) _) _) _), (by first | exact below_drewN Hbe.out _ | exact below_drewN (below_drewN Hbe.out _) _ | exact below_drewN (below_drewN (below_drewN Hbe.out _) _) _)⟩
          · obtain ⟨A, c, hV, -⟩ := own_form (Hm.out.row true)
            have hrow := Hm.out.row true
            rw [hV] at hrow
            have hh := Holds.own hrow
            rw [zL_map] at hh
            obtain ⟨m, hml⟩ : ∃ m, (Hd true).length = m := ⟨_, rfl⟩
            have hm80 : m ≤ 80 := by have := Hdl.out true; omega
            rw [hml] at hV hh
            have HHas := Lib.hid (fun W' (hb : Below wr.heap.size wr W') => hasInt_any A c m (Hd true) aby W' wr.heap.size (hh.below hb) hml (by omega))
            have h1 : wr.cell? ⟨w2.heap.size + 1, 1, none⟩ = some (.slice A m c) := by have := Hm.out.cellH true; rwa [hV] at this
            have hneh : b ≠ w2.heap.size + 1 := by omega
            have HV := Lib.hid hV
            have Hml := Lib.hid hml
            clear hV hrow hh hml
            by_cases hmem : aby ∈ Hd true
            · obtain ⟨p1, p2, p3, p4⟩ := HT.out.again rfl rfl hmem
              rw [Hx.out] at p2 p3 p4
              simp only at p2
              rw [p2] at e5
              have P1 := Lib.hid p1
              have HHas2 := Lib.hid (fun W' hb => by have := HHas.out W' hb; rwa [show decide (aby ∈ Hd true) = true by simpa using hmem] at this)
              have hy0 : ¬ x < 0 := by omega
              have hy1 : ¬ 12 < x := by omega
              have hy2 : decide (x < 0) = false := by simpa using hy0
              have hy3 : decide (12 < x) = false := by simpa using hy1
              clear p1 p2 p3 p4 e4 HT HHas hmem
              go_wp2_with fail
              go_quiet ((go_at_call 14; exact has_left (HHas2.out _ (below_drewN (Below.refl _ _) _))))
              go_wp2_with fail
              go_quiet (fail)
              go_wp2_with fail
              go_roundg (n - (i + 1))
              case measure => have := Hgk.out; omega
              case rel => exact ⟨i + 1, K, Hd, V, by go_num, by omega, rfl, P1.out, fun T => by have := Hdl.out T; omega, Hm.out.below (by first | exact below_drewN (Below.refl _ _) _ | exact below_drewN (below_drewN (Below.refl _ _) _) _ | exact below_drewN (below_drewN (below_drewN (Below.refl _ _) _) _) _), (by first | exact below_drewN Hbe.out _ | exact below_drewN (below_drewN Hbe.out _) _ | exact below_drewN (below_drewN (below_drewN Hbe.out _) _) _)⟩
            · have HHas2 := Lib.hid (fun W' hb => by have := HHas.out W' hb; rwa [show decide (aby ∈ Hd true) = false by simpa using hmem] at this)
              clear HHas
              go_wp2_with fail
              go_quiet ((go_at_call 14; exact has_left (HHas2.out _ (below_drewN (Below.refl _ _) _))))
              go_wp2_with fail
              obtain ⟨Wd, hWd⟩ : ∃ W, (wr.drewN nq).drew = W := ⟨_, rfl⟩
              have hbd : Below wr.heap.size wr Wd := by rw [← hWd]; exact (below_drewN (Below.refl _ _) _).drew
              have hmd := Hm.out.below hbd
              obtain ⟨v9, w9, hrun9, s8, s9, f9, hb9, hmz⟩ := hmd.push true aby HV.out (by rw [Hml.out]; omega)
              have hd4 : Wd.cell? ⟨b, off + i * 5 + 4, none⟩ = some (.int .i64 aby) := (hbd.cell hbw).trans d4
              have t8 : (Wd.alloc (.cells #[.int .i64 aby] 3)).cell? ⟨b, off + i * 5 + 4, none⟩ = some (.int .i64 aby) := (((Below.refl Wd.heap.size Wd).alloc (Nat.le_refl _) _).cell (by have := hbd.size; show b < _; omega)).trans hd4
              have t9 : w9.cell? ⟨b, off + i * 5 + 4, none⟩ = some (.int .i64 aby) := (hb9.cell (by show b < _; omega)).trans hd4
              obtain ⟨A9, c9, hv9, -⟩ := own_form (hmz.row true)
              rw [upd_same] at hv9
              obtain ⟨m9, hm9⟩ : ∃ k, (upd Hd true (Hd true ++ [aby]) true).length = k := ⟨_, rfl⟩
              rw [hm9] at hv9
              subst hv9
              clear hm9
              replace s9 : w9.cell? ⟨w2.heap.size + 1, 1, none⟩ = some (.slice A m c) := s9
              replace f9 : w9.frozen? ⟨w2.heap.size + 1, 1, none⟩ = false := f9
              have hS : Wd.cell? ⟨w2.heap.size + 1, 1, none⟩ = some (.slice A m c) ∧ Wd.cell? ⟨b, off + i * 5 + 4, none⟩ = some (.int .i64 aby) := ⟨by have := hmd.cellH true; rwa [HV.out] at this, hd4⟩
              refine region_S (fun w' => w'.cell? ⟨w2.heap.size + 1, 1, none⟩ = some (.slice A m c) ∧ w'.cell? ⟨b, off + i * 5 + 4, none⟩ = some (.int .i64 aby)) [12] (by kernel_rfl) ?_
              rw [hWd]
              refine anyS_take 0 (v := .int .i64 1) rfl (by kernel_rfl) (by kernel_rfl) (by kernel_rfl) (by kernel_rfl) (fun _ _ _ h => h) (.inl ⟨by kernel_rfl, fun w' hS' => by kernel_rfl⟩) hS ?_
              refine anyS_take 1 (v := .int .i64 1) rfl (by kernel_rfl) (by kernel_rfl) (by kernel_rfl) (by kernel_rfl) (fun _ _ _ h => h) (.inl ⟨by kernel_rfl, fun w' hS' => by kernel_rfl⟩) hS ?_
              refine anyS_take 2 (v := .pointer (some ⟨w2.heap.size + 1, 1, none⟩)) rfl (by kernel_rfl) (by kernel_rfl) (by kernel_rfl) (by kernel_rfl) (fun _ _ _ h => h) (.inl ⟨by kernel_rfl, fun w' hS' => by go_simp⟩) hS ?_
              refine anyS_take 3 (v := .slice A m c) rfl (by kernel_rfl) (by kernel_rfl) (by kernel_rfl) (by kernel_rfl) (fun _ _ _ h => h) (.inl ⟨by kernel_rfl, fun w' hS' => by obtain ⟨s1, s2⟩ := hS'; go_simp⟩) hS ?_
              refine anyS_take 4 (v := .slice (some ⟨b, off, none⟩) n c1) rfl (by kernel_rfl) (by kernel_rfl) (by kernel_rfl) (by kernel_rfl) (fun _ _ _ h => h) (.inl ⟨by kernel_rfl, fun w' hS' => by kernel_rfl⟩) hS ?_
              refine anyS_take 5 (v := .int .i64 (i : Int)) rfl (by kernel_rfl) (by kernel_rfl) (by kernel_rfl) (by kernel_rfl) (fun _ _ _ h => h) (.inl ⟨by kernel_rfl, fun w' hS' => by kernel_rfl⟩) hS ?_
              refine anyS_take 6 (v := .pointer (some ⟨b, off + i * 5, none⟩)) rfl (by kernel_rfl) (by kernel_rfl) (by kernel_rfl) (by kernel_rfl) (fun _ _ _ h => h) (.inl ⟨by kernel_rfl, fun w' hS' => by go_simp⟩) hS ?_
              refine anyS_take 7 (v := .pointer (some ⟨b, off + i * 5 + 4, none⟩)) rfl (by kernel_rfl) (by kernel_rfl) (by kernel_rfl) (by kernel_rfl) (fun _ _ _ h => h) (.inl ⟨by kernel_rfl, fun w' hS' => by go_simp⟩) hS ?_
              refine anyS_take 8 (v := .int .i64 aby) rfl (by kernel_rfl) (by kernel_rfl) (by kernel_rfl) (by kernel_rfl) (fun _ _ _ h => h) (.inl ⟨by kernel_rfl, fun w' hS' => by obtain ⟨s1, s2⟩ := hS'; go_simp⟩) hS ?_
              refine anyS_one 9 rfl (by kernel_rfl) rfl ?_
              intro K9 hK9
              go_simp
              refine hK9 _ _ ⟨fun _ => ⟨s8, t8⟩, ?_⟩
              refine anyS_one 10 rfl (by kernel_rfl) rfl ?_
              intro K10 hK10
              refine oper_app _ _ _ rfl _ _ (by rfl) (by rfl) hrun9 ?_
              refine hK10 _ _ ⟨fun _ => ⟨s9, t9⟩, ?_⟩
              refine anyS_one 11 rfl (by kernel_rfl) rfl ?_
              intro K11 hK11
              go_simp
              refine hK11 _ _ ⟨fun _ => ⟨s9, t9⟩, ?_⟩
              refine anyS_one 12 rfl (by kernel_rfl) rfl ?_
              intro K12 hK12
              go_simp
              refine hK12 _ _ ⟨fun h => absurd (List.mem_singleton.2 rfl) h, ?_⟩
              refine anyS_done (by kernel_rfl) ?_
              have hbz : Below w2.heap.size w2 (w9.setCell ⟨w2.heap.size + 1, 1, none⟩ (.slice A9 m9 c9)) := ((Hbe.out.trans (hbd.mono Hbe.out.size)).trans (hb9.mono (by omega))).setCell (p := ⟨w2.heap.size + 1, 1, none⟩) (by show w2.heap.size ≤ w2.heap.size + 1; omega) _
              have hmz2 : CtM w2.heap.size (w9.setCell ⟨w2.heap.size + 1, 1, none⟩ (.slice A9 m9 c9)) K (upd Hd true (Hd true ++ [aby])) (upd V true (.slice A9 m9 c9)) := hmz
              clear hmz
              obtain ⟨wz, hwz⟩ : ∃ W, w9.setCell ⟨w2.heap.size + 1, 1, none⟩ (.slice A9 m9 c9) = W := ⟨_, rfl⟩
              rw [hwz] at hbz hmz2 ⊢
              clear hwz
              obtain ⟨-, -, -, z4, z5, -⟩ := gvn_at' (Hin2.out.below hbz) hir
              rw [Hlg.out] at z4 z5
              simp only at z4 z5
              have mz : wz.cell? ⟨w2.heap.size, 1, none⟩ = some (.int .i64 x) := by have := hmz2.cellM true; rwa [Hx.out] at this
              have fz : wz.frozen? ⟨w2.heap.size, 1, none⟩ = false := hmz2.many.frozen 1
              have hbz' : b' < wz.heap.size := by have := hbz.size; omega
              have hgz : w2.heap.size < wz.heap.size := by have := hmz2.size; omega
              have Hmz := Lib.hid hmz2
              have Hbz := Lib.hid hbz
              clear hbz hmz2 hbd hmd hrun9 s8 s9 f9 hb9 hd4 t8 t9 hS hWd e0 e4 e5 d0 d1 d4 h1 m1 hf0
              cases gs with
              | true =>
                obtain ⟨p1, p2, p3⟩ := HT.out.spare rfl rfl hmem rfl (upd Hd true (Hd true ++ [aby])) (upd_other _ _ _) (upd_same _ _ _)
                rw [Hx.out] at p2 p3
                simp only at p2
                rw [p2] at z5
                rw [p3] at mz z5
                have P1 := Lib.hid p1
                clear p1 p2 p3 HT hmem
                go_wp2_with fail
                go_quiet (fail)
                go_wp2_with fail
                go_roundg (n - (i + 1))
                case measure => have := Hgk.out; omega
                case rel => exact ⟨i + 1, K, _, _, by go_num, by omega, rfl, P1.out, upd_len Hdl.out true aby, Hmz.out.below (by first | exact below_drewN (Below.refl _ _) _ | exact below_drewN (below_drewN (Below.refl _ _) _) _ | exact below_drewN (below_drewN (below_drewN (Below.refl _ _) _) _) _), (by first | exact below_drewN Hbz.out _ | exact below_drewN (below_drewN Hbz.out _) _ | exact below_drewN (below_drewN (below_drewN Hbz.out _) _) _)⟩
              | false =>
                obtain ⟨y, hy⟩ : ∃ y, x - 1 = y := ⟨_, rfl⟩
                obtain ⟨p1, p2, p3, p4⟩ := HT.out.fresh rfl rfl hmem rfl (upd Hd true (Hd true ++ [aby])) (upd_other _ _ _) (upd_same _ _ _) (upd K true y) (upd_other _ _ _) (by rw [upd_same, Hx.out]; exact hy.symm)
                rw [upd_same] at p2 p3 p4
                simp only at p2
                have hw : IntKind.i64.wrap (x - 1) = y := by rw [hy]; exact IntWalk.i64_in _ (by omega)
                have P1 := Lib.hid p1
                have hm2 := Hmz.out.setM true y
                have hb2 : Below w2.heap.size w2 (wz.setCell ⟨w2.heap.size, 1, none⟩ (.int .i64 y)) := Hbz.out.setCell (p := ⟨w2.heap.size, 1, none⟩) (Nat.le_refl _) _
                obtain ⟨wy, hwy⟩ : ∃ wy, wz.setCell ⟨w2.heap.size, 1, none⟩ (.int .i64 y) = wy := ⟨_, rfl⟩
                have hm2 : CtM w2.heap.size wy (upd K true y) (upd Hd true (Hd true ++ [aby])) (upd V true (.slice A9 m9 c9)) := by rw [← hwy]; exact hm2
                rw [hwy] at hb2
                have y1 : wy.cell? ⟨w2.heap.size, 1, none⟩ = some (.int .i64 y) := by have := hm2.cellM true; rwa [upd_same] at this
                obtain ⟨-, -, -, -, y5, -⟩ := gvn_at' (Hin2.out.below hb2) hir
                rw [Hlg.out] at y5
                simp only at y5
                rw [p2] at y5
                have Hm2 := Lib.hid hm2
                have Hb2 := Lib.hid hb2
                have hy0 : ¬ y < 0 := by omega
                have hy1 : ¬ 12 < y := by omega
                have hy2 : decide (y < 0) = false := by simpa using hy0
                have hy3 : decide (12 < y) = false := by simpa using hy1
                have Hy := Lib.hid hy
                clear p1 p2 p3 p4 hm2 hb2 hy z5 HT hmem
                go_wp2_with fail
                go_quiet (fail)
                go_wp2_with fail
                go_roundg (n - (i + 1))
                case measure => have := Hgk.out; omega
                case rel => exact ⟨i + 1, _, _, _, by go_num, by omega, rfl, P1.out, upd_len Hdl.out true aby, Hm2.out.below (by first | exact below_drewN (Below.refl _ _) _ | exact below_drewN (below_drewN (Below.refl _ _) _) _ | exact below_drewN (below_drewN (below_drewN (Below.refl _ _) _) _) _), (by first | exact below_drewN Hb2.out _ | exact below_drewN (below_drewN Hb2.out _) _ | exact below_drewN (below_drewN (below_drewN Hb2.out _) _) _)⟩
          · obtain ⟨p1, p2, p3, p4⟩ := HT.out.other rfl (.inr rfl)
            rw [Hx.out] at p2 p3 p4
            simp only at p2
            rw [p2] at e5
            have P1 := Lib.hid p1
            have hy0 : ¬ x < 0 := by omega
            have hy1 : ¬ 12 < x := by omega
            have hy2 : decide (x < 0) = false := by simpa using hy0
            have hy3 : decide (12 < x) = false := by simpa using hy1
            clear p1 p2 p3 p4 e4 d4 HT
            go_wp2_with fail
            go_quiet (fail)
            go_wp2_with fail
            go_roundg (n - (i + 1))
            case measure => have := Hgk.out; omega
            case rel => exact ⟨i + 1, K, Hd, V, by go_num, by omega, rfl, P1.out, fun T => by have := Hdl.out T; omega, Hm.out.below (by first | exact below_drewN (Below.refl _ _) _ | exact below_drewN (below_drewN (Below.refl _ _) _) _ | exact below_drewN (below_drewN (below_drewN (Below.refl _ _) _) _) _), (by first | exact below_drewN Hbe.out _ | exact below_drewN (below_drewN Hbe.out _) _ | exact below_drewN (below_drewN (below_drewN Hbe.out _) _) _)⟩
        · have P1 := Lib.hid (HT.out.bad hc)
          have hc1 : (gc == 0) = false := by simpa using hc
          clear HT hc e4 e5 d4
          go_wp2_with fail
          go_roundg (n - (i + 1))
          case measure => have := Hgk.out; omega
          case rel => exact ⟨i + 1, K, Hd, V, by go_num, by omega, rfl, P1.out, fun T => by have := Hdl.out T; omega, Hm.out, Hbe.out⟩
    · have hii : ¬ (i : Int) < (n : Int) := by omega
      go_wp2_with fail
      go_ret
      exact ⟨rfl, below_tail B2.out Hbe.out B2.out.size⟩
namespace keysCounted
open Go.ChangeShapes Go.WideShapes Go.ChangeAt Go.RowKit
theorem own : ownKnob Try.prog.godebug = none := by kernel_rfl
theorem laidOut : laidOutB Try.prog = true := by kernel_rfl
set_option linter.unusedVariables false
set_option maxRecDepth 100000 in
theorem lifted (os : Os) (started : os.Started) (H : Type) (enc : TypeId × Value → H) :
    ReturnsInHanded {} Try.checked os 5 .any (Rows.keysCountedSpec.pre6 enc Try.prog Try.f5 Rows.keysCountedRow.domain false) (Rows.keysCountedSpec.post enc Try.prog Try.f5 false true false false) := by
  refine returnsInHanded_of_change_shaped (C := Try.checked) own started (by kernel_rfl) Try.func5
    (ChangeSpec.witness6 (enc := enc) (C := Try.checked) false ⟨#[], #[.slice none 0 0], []⟩ 8 (by kernel_rfl) (by kernel_rfl) (by kernel_rfl) (by kernel_rfl)) ?_
  intro W base args ds gs before hval0 hW hcnd _ hsh0 _
  have hsh : W.ShapedOpen Try.prog := hsh0
  have hval : ∀ (j : Nat) t v, Try.f5.params[j]? = some t → args[j]? = some v → Value.okWide Try.prog W .any base t v := hval0
  have hW' := hW
  obtain ⟨p, q, hA0, hV, rfl, hfz, hnd⟩ := hW
  have hA : DataW.TrodAll enc Try.prog W 0 (fun _ => true) true Try.f5.params.toList args.toList ds p := hA0
  rw [Try.params5] at hA hval
  obtain ⟨v0, vs0, d0, ds0, p0, q0, hargs, rfl, rfl, h0, rr0⟩ := trodAll_cons hA
  obtain ⟨rfl, rfl, rfl⟩ := trodAll_nil rr0
  obtain rfl : args = #[v0] := by cases args; simp_all
  obtain ⟨rfl, rfl⟩ := trodVars_none hV
  have k0 := h0
  have lt0 : ∀ x ∈ p0, x.block < W.heap.size := by obtain ⟨m, hm⟩ := k0; exact DataW.trod_lt m _ _ _ hm
  obtain ⟨A0, n0, c0, rfl, hx0⟩ := open_intsl Try.underlying30 Try.underlying3 (by kernel_rfl) (hval 0 30 v0 rfl rfl) h0
  clear hA0 hval0
  refine (walkKeysCounted A0 n0 c0 W hx0 hsh).mono fun e W' ⟨he, bel⟩ => ?_
  subst he
  exact ⟨_, rfl, _, _, _, [], _, [], hW', trodAll_mk1 (shut_bool Try.underlying4 _), (trodAll_cons_mk (Below.trod laidOut (by kernel_rfl) (of_decide_eq_true (by kernel_rfl)) k0 bel lt0) trodAll_mk0), rfl, bel.frame _, fun h => by cases h⟩

theorem over : Rows.keysCountedRow.holds Try.pinned (OpenSpec.ofChange Rows.keysCountedSpec) :=
  OpenClaim.holds_of_wide 5 Try.f5 rfl rfl rfl rfl rfl rfl rfl ⟨rfl, rfl, rfl, rfl, rfl⟩ rfl rfl rfl rfl rfl (by kernel_rfl) Try.func5 (by kernel_rfl)
    (of_decide_eq_true (by kernel_rfl)) (by unfold Func.isWrapper; first | (rw [if_pos (by decide +kernel)]; kernel_rfl) | (rw [if_neg (by decide +kernel)]; exact ⟨rfl, rfl⟩))
    (fun os started H enc _ => lifted os started H enc)

theorem proved : Rows.KeysCountedSaid := over
#print axioms proved
end keysCounted
end Go.Proofs.Ytaamoilkphjhgab
