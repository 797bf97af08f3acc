/- The disk: Moves, the moves that the statements draw out of raw numbers: so many at most, none with more than eight bytes. -/
import Derived.Test.YthkbeliplibiaaaDkMoves
import Derived.Test.YthkbeliplibiaaaOpenI
import Derived.Test.YthkbeliplibiaaaRgS
namespace Go.Proofs.Ythkbeliplibiaaa
set_option linter.unusedVariables false
set_option linter.unusedSimpArgs false
open Go.RowKit

def MovesR (lim : Nat) (w : World) (gk : Nat) (v i : Value) (wr : World) : Prop :=
  ∃ (ms : List Mv) (k : Nat) (A : Option Addr) (c : Nat), v = .slice A k c ∧ i = .int .i64 (k : Int) ∧ gk = lim - k ∧ k ≤ lim ∧ ms.length = k ∧ (∀ m ∈ ms, m.data.length ≤ 8) ∧ MvsOwn w wr v ms ∧ Below w.heap.size w wr
def InR (w0 : World) (q : Nat) (gk : Nat) (i : Value) (wr : World) : Prop :=
  ∃ (d : List UInt8) (k : Nat) (A : Option Addr) (c : Nat), i = .int .i64 (k : Int) ∧ d.length = k ∧ k ≤ q ∧ gk = q - k ∧ Blk wr w0.heap.size 40 #[.int .i64 1, .slice A k c, .int .i64 0] ∧
    wr.ownsRow (w0.heap.size + 1) 5 1 (.slice A k c) k (d.map bv) ∧ Below w0.heap.size w0 wr
def MovesPost (lim : Nat) (w : World) (e : Ending) (w' : World) : Prop :=
  ∃ (ms : List Mv) (A : Option Addr) (c : Nat), e = .returned (.slice A ms.length c) ∧ ms.length ≤ lim ∧ (∀ m ∈ ms, m.data.length ≤ 8) ∧ MvsOwn w w' (.slice A ms.length c) ms ∧ Below w.heap.size w w'
theorem min_nil (W : World) (S : Nat → Prop) (k n : Int) (hk : -9223372036854775808 ≤ k ∧ k ≤ 9223372036854775807) (hn : -9223372036854775808 ≤ n ∧ n ≤ 9223372036854775807) : MIn W S ⟨k, [], n⟩ [.int .i64 k, .slice none 0 0, .int .i64 n] :=
  ⟨none, 0, rfl, by simp, by simp, fun _ => rfl, hk, hn, HoldsS.nil⟩
theorem u8_wrap_lt (z : Int) : 0 ≤ IntKind.u8.wrap z ∧ IntKind.u8.wrap z < 256 := by
  simp [IntKind.wrap, IntKind.signed, IntKind.bits]
  omega
theorem picked_quiet (a n : Int) (w : World) (hn : 0 < n) (hn2 : n ≤ 1048576) :
    Calls Try.prog 15 #[.int .i64 a, .int .i64 n] w fun e w' => e = .returned (.int .i64 (a % n)) ∧ w' = w :=
  (picked_any a n w hn hn2).mono fun _ _ h => ⟨h.1, h.2.symm⟩

set_option maxRecDepth 100000 in
set_option maxHeartbeats 2000000 in
theorem moves_any (A : Option Addr) (n c B lim : Nat) (w : World) (hx : IntsAt w B A n c) (hB : B ≤ w.heap.size) (hlim : lim ≤ 100) :
    Calls Try.prog 14 #[.slice A n c, .int .i64 (lim : Int)] w (MovesPost lim w) := by
  have Hx := Lib.hid hx
  clear hx
  go_enter Try.func14, Try.ntmps14
  go_wp2_with fail
  go_loopg [5, 6] lim (MovesR lim w)
  case atStart => exact ⟨[], 0, none, 0, rfl, rfl, by simp, by simp, rfl, by simp, MvsOwn.nil _ _, Below.refl _ _⟩
  case round =>
    obtain ⟨ms, k, Am, cm, rfl, rfl, hgk, hml, hmk, hmd, hown, hbe⟩ := hrel
    have Hgk := Lib.hid hgk
    have Hmk := Lib.hid hmk
    have Hmd := Lib.hid hmd
    have Hown := Lib.hid hown
    have Hbe := Lib.hid hbe
    have hsz := hbe.size
    have hm1 : ms.length + 1 ≤ 1048576 := by omega
    clear hgk hmd hown hbe hmk
    by_cases h1 : k < n
    · have h1' : (k : Int) < (n : Int) := by omega
      by_cases h2 : k < lim
      · have h2' : (k : Int) < (lim : Int) := by omega
        obtain ⟨b, off, x, rfl, hb, hc, hx1, hx2⟩ := (Hx.out.below (Hbe.out.mono hB)).at h1
        have hbw : b < wr.heap.size := by omega
        go_wp2_with fail
        refine (picked_any x 8 _ (by decide) (by decide)).mono ?_
        rintro e w2 ⟨rfl, rfl⟩
        obtain ⟨p, hp⟩ : ∃ p, x % 8 = p := ⟨_, rfl⟩
        rw [hp]
        have P := Lib.hid hp
        clear hp
        by_cases p5 : p = 5
        · subst p5
          have HW := Lib.hid (show Below wr.heap.size wr (wr.alloc (.cells #[.int .i64 2, .slice none 0 0, .int .i64 0] 40)) from (Below.refl _ _).alloc (Nat.le_refl _) _)
          have HO := Lib.hid (Hown.out.belowS HW.out)
          have HM := Lib.hid (show MIn (wr.alloc (.cells #[.int .i64 2, .slice none 0 0, .int .i64 0] 40)) (fun b => newS w (wr.alloc (.cells #[.int .i64 2, .slice none 0 0, .int .i64 0] 40)) b ∧ some b ≠ (Value.slice Am k cm).ownBlock) (Mv.mk 2 [] 0) [.int .i64 2, .slice none 0 0, .int .i64 0] from min_nil _ _ _ _ (by decide) (by decide))
          have hs1 : w.heap.size ≤ (wr.alloc (.cells #[.int .i64 2, .slice none 0 0, .int .i64 0] 40)).heap.size := Nat.le_trans hsz HW.out.size
          go_wp2_with (at_builtin; refine wpList_putM (by rfl) _ _ (by rfl) w (.slice Am k cm) ms (Mv.mk 2 [] 0) [.int .i64 2, .slice none 0 0, .int .i64 0] (by rfl) HO.out HM.out _ rfl _ (by rfl) (by simp) hm1 hs1 ?_; intro v3 w3 ho3 hb3 hs3)
          go_wp2
          go_roundg (lim - (k + 1))
          case measure => have := Hgk.out; omega
          case rel =>
            obtain ⟨A3, c3, rfl⟩ := ho3.form
            have hl2 : (ms ++ [(Mv.mk 2 [] 0)]).length = k + 1 := by have := Hmk.out; simp; omega
            rw [hl2] at ho3 ⊢
            refine ⟨ms ++ [(Mv.mk 2 [] 0)], k + 1, A3, c3, rfl, by go_num, by omega, by omega, hl2, ?_, ho3, (Hbe.out.trans (HW.out.mono hsz)).trans hb3⟩
            intro m hm
            rcases List.mem_append.1 hm with hm | hm
            · exact Hmd.out m hm
            · simp at hm; subst hm; simp
        · by_cases p6 : p = 6
          · subst p6
            go_wp2_with fail
            refine (picked_any _ 30 _ (by decide) (by decide)).mono ?_
            rintro e w2 ⟨rfl, rfl⟩
            have hy0 := Int.emod_nonneg (x.tdiv 8) (show (30 : Int) ≠ 0 by decide)
            have hy1 := Int.emod_lt_of_pos (x.tdiv 8) (show (0 : Int) < 30 by decide)
            generalize (x.tdiv 8) % 30 = y at *
            have HW := Lib.hid (show Below wr.heap.size wr (wr.alloc (.cells #[.int .i64 3, .slice none 0 0, .int .i64 y] 40)) from (Below.refl _ _).alloc (Nat.le_refl _) _)
            have HO := Lib.hid (Hown.out.belowS HW.out)
            have HM := Lib.hid (show MIn (wr.alloc (.cells #[.int .i64 3, .slice none 0 0, .int .i64 y] 40)) (fun b => newS w (wr.alloc (.cells #[.int .i64 3, .slice none 0 0, .int .i64 y] 40)) b ∧ some b ≠ (Value.slice Am k cm).ownBlock) (Mv.mk 3 [] y) [.int .i64 3, .slice none 0 0, .int .i64 y] from min_nil _ _ _ _ (by decide) (by omega))
            have hs1 : w.heap.size ≤ (wr.alloc (.cells #[.int .i64 3, .slice none 0 0, .int .i64 y] 40)).heap.size := Nat.le_trans hsz HW.out.size
            go_wp2_with (at_builtin; refine wpList_putM (by rfl) _ _ (by rfl) w (.slice Am k cm) ms (Mv.mk 3 [] y) [.int .i64 3, .slice none 0 0, .int .i64 y] (by rfl) HO.out HM.out _ rfl _ (by rfl) (by simp) hm1 hs1 ?_; intro v3 w3 ho3 hb3 hs3)
            go_wp2
            go_roundg (lim - (k + 1))
            case measure => have := Hgk.out; omega
            case rel =>
              obtain ⟨A3, c3, rfl⟩ := ho3.form
              have hl2 : (ms ++ [(Mv.mk 3 [] y)]).length = k + 1 := by have := Hmk.out; simp; omega
              rw [hl2] at ho3 ⊢
              refine ⟨ms ++ [(Mv.mk 3 [] y)], k + 1, A3, c3, rfl, by go_num, by omega, by omega, hl2, ?_, ho3, (Hbe.out.trans (HW.out.mono hsz)).trans hb3⟩
              intro m hm
              rcases List.mem_append.1 hm with hm | hm
              · exact Hmd.out m hm
              · simp at hm; subst hm; simp
          · by_cases p7 : p = 7
            · subst p7
              go_wp2_with fail
              refine (picked_any _ 12 _ (by decide) (by decide)).mono ?_
              rintro e w2 ⟨rfl, rfl⟩
              have hy0 := Int.emod_nonneg (x.tdiv 8) (show (12 : Int) ≠ 0 by decide)
              have hy1 := Int.emod_lt_of_pos (x.tdiv 8) (show (0 : Int) < 12 by decide)
              generalize (x.tdiv 8) % 12 = y at *
              have HW := Lib.hid (show Below wr.heap.size wr (wr.alloc (.cells #[.int .i64 4, .slice none 0 0, .int .i64 y] 40)) from (Below.refl _ _).alloc (Nat.le_refl _) _)
              have HO := Lib.hid (Hown.out.belowS HW.out)
              have HM := Lib.hid (show MIn (wr.alloc (.cells #[.int .i64 4, .slice none 0 0, .int .i64 y] 40)) (fun b => newS w (wr.alloc (.cells #[.int .i64 4, .slice none 0 0, .int .i64 y] 40)) b ∧ some b ≠ (Value.slice Am k cm).ownBlock) (Mv.mk 4 [] y) [.int .i64 4, .slice none 0 0, .int .i64 y] from min_nil _ _ _ _ (by decide) (by omega))
              have hs1 : w.heap.size ≤ (wr.alloc (.cells #[.int .i64 4, .slice none 0 0, .int .i64 y] 40)).heap.size := Nat.le_trans hsz HW.out.size
              go_wp2_with (at_builtin; refine wpList_putM (by rfl) _ _ (by rfl) w (.slice Am k cm) ms (Mv.mk 4 [] y) [.int .i64 4, .slice none 0 0, .int .i64 y] (by rfl) HO.out HM.out _ rfl _ (by rfl) (by simp) hm1 hs1 ?_; intro v3 w3 ho3 hb3 hs3)
              go_wp2
              go_roundg (lim - (k + 1))
              case measure => have := Hgk.out; omega
              case rel =>
                obtain ⟨A3, c3, rfl⟩ := ho3.form
                have hl2 : (ms ++ [(Mv.mk 4 [] y)]).length = k + 1 := by have := Hmk.out; simp; omega
                rw [hl2] at ho3 ⊢
                refine ⟨ms ++ [(Mv.mk 4 [] y)], k + 1, A3, c3, rfl, by go_num, by omega, by omega, hl2, ?_, ho3, (Hbe.out.trans (HW.out.mono hsz)).trans hb3⟩
                intro m hm
                rcases List.mem_append.1 hm with hm | hm
                · exact Hmd.out m hm
                · simp at hm; subst hm; simp
            · have n5 : (p == 5) = false := by simpa using p5
              have n6 : (p == 6) = false := by simpa using p6
              have n7 : (p == 7) = false := by simpa using p7
              clear p5 p6 p7
              obtain ⟨wa, rfl⟩ : ∃ wa, wa = wr := ⟨_, rfl⟩
              have hq0 := Int.emod_nonneg (x.tdiv 8) (show (9 : Int) ≠ 0 by decide)
              have hq1 := Int.emod_lt_of_pos (x.tdiv 8) (show (0 : Int) < 9 by decide)
              obtain ⟨q, hq⟩ : ∃ q : Nat, (x.tdiv 8) % 9 = (q : Int) := ⟨((x.tdiv 8) % 9).toNat, by omega⟩
              have hq8 : q ≤ 8 := by omega
              have Hq := Lib.hid hq
              have hnb := Blk.new wa 40 #[.int .i64 1, .slice none 0 0, .int .i64 0]
              have Hst := Lib.hid (show InR wa q q (.int .i64 0) (wa.alloc (.cells #[.int .i64 1, .slice none 0 0, .int .i64 0] 40)) from
                ⟨[], 0, none, 0, rfl, rfl, by omega, by omega, hnb, World.ownsRow_nil _ _ _ _, (Below.refl _ _).alloc (Nat.le_refl _) _⟩)
              clear hq0 hq1 hq hnb
              go_wp2_with fail
              go_loopg [9] q (InR wa q)
              case atStart => exact Hst.out
              case round =>
                clear Hst
                obtain ⟨d, j, Aj, cj, rfl, hdj, hjq, hgj, hbx, hrow, hbb⟩ := hrel
                have Hgj := Lib.hid hgj
                have Hdj := Lib.hid hdj
                have Hbx := Lib.hid hbx
                have Hrow := Lib.hid hrow
                have Hbb := Lib.hid hbb
                have hszj := hbb.size
                clear hgj hdj hrow hbb
                have c0 : wr.cell? ⟨wa.heap.size, 0, none⟩ = some (.int .i64 1) := hbx.cell 0
                have c1 : wr.cell? ⟨wa.heap.size, 1, none⟩ = some (.slice Aj j cj) := hbx.cell 1
                have c2 : wr.cell? ⟨wa.heap.size, 2, none⟩ = some (.int .i64 0) := hbx.cell 2
                have f1 := hbx.frozen 1
                have hgl := hbx.lt
                clear hbx
                go_wp2_with fail
                refine (picked_any _ 9 _ (by decide) (by decide)).mono ?_
                rintro e w2 ⟨rfl, rfl⟩
                rw [Hq.out]
                by_cases hjl : j < q
                · have hjl' : (j : Int) < (q : Int) := by omega
                  go_wp2_with fail
                  have hy0 := Int.emod_nonneg (IntKind.i64.wrap (x.tdiv 64)) (show (250 : Int) ≠ 0 by decide)
                  have hy1 := Int.emod_lt_of_pos (IntKind.i64.wrap (x.tdiv 64)) (show (0 : Int) < 250 by decide)
                  have pk := Lib.hid (fun W => picked_quiet (IntKind.i64.wrap (x.tdiv 64)) 250 W (by decide) (by decide))
                  obtain ⟨z, hz⟩ : ∃ z, IntKind.i64.wrap (x.tdiv 64) = z := ⟨_, rfl⟩
                  rw [hz] at hy0 hy1 pk
                  generalize z % 250 = y at *
                  obtain ⟨bb, hbbv⟩ : ∃ bb : UInt8, IntKind.u8.wrap (IntKind.i64.wrap (y + (j : Int))) = (bb.toNat : Int) := ⟨UInt8.ofNat (IntKind.u8.wrap (IntKind.i64.wrap (y + (j : Int)))).toNat, by have h0 := u8_wrap_lt (IntKind.i64.wrap (y + (j : Int))); simp only [UInt8.toNat_ofNat']; rw [Nat.mod_eq_of_lt (by omega)]; omega⟩
                  obtain ⟨wb, hwb⟩ : ∃ wb, wr.drew.alloc (.cells #[.int .u8 (bb.toNat : Int)] 5) = wb := ⟨_, rfl⟩
                  have hnb : Blk wb wr.heap.size 5 #[.int .u8 (bb.toNat : Int)] := by rw [← hwb]; exact Blk.new wr.drew 5 _
                  have hbw2 : Below wr.heap.size wr wb := by rw [← hwb]; exact (below_drewN (Below.refl _ wr) 1).alloc (Nat.le_refl _) _
                  have hrowb := own_belowS Hrow.out hbw2
                  obtain ⟨i0, hi0, hz0, hz1, hz2⟩ := info_parts info_u8
                  obtain ⟨v9, w9, hrun9, ho9, hg9, _, hb9⟩ := run_append_own_at (P := Try.prog) (w := wb) (wa.heap.size + 1) 24 24 5 i0 _ 1 1 Try.underlying24 hi0 hz0 hz1 hz2 rfl (by decide) (.slice Aj j cj) j _ hrowb ⟨wr.heap.size, 0, none⟩ 1 1 [.int .u8 (bb.toNat : Int)] (by simp) (fun i u hu => by rw [plus_addr, Nat.zero_add, hnb.cell i]; simpa using hu) (by simp [Value.oneCell']) (by unfold maxLen; omega) (by omega) (by have := hbw2.size; omega)
                  have hbx9 : Blk w9 wa.heap.size 40 #[.int .i64 1, .slice Aj j cj, .int .i64 0] := (Hbx.out.below hbw2 Hbx.out.lt).grown hg9 (fun e => row_box hrowb (Hbx.out.below hbw2 Hbx.out.lt) (by decide) e.symm)
                  have hS8 : wb.cell? ⟨wa.heap.size, 1, none⟩ = some (.slice Aj j cj) := (Hbx.out.below hbw2 Hbx.out.lt).cell 1
                  have hS9 : w9.cell? ⟨wa.heap.size, 1, none⟩ = some (.slice Aj j cj) := hbx9.cell 1
                  have hf9 := hbx9.frozen 1
                  have Hrun9 := Lib.hid hrun9
                  obtain ⟨A9, c9, rfl, _⟩ := own_form ho9
                  refine region_S (fun w' => w'.cell? ⟨wa.heap.size, 1, none⟩ = some (.slice Aj j cj)) [11] (by kernel_rfl) ?_
                  have hS : wr.drew.cell? ⟨wa.heap.size, 1, none⟩ = some (.slice Aj j cj) := c1
                  refine anyS_take 0 (v := .pointer (some ⟨wa.heap.size, 1, none⟩)) rfl (by kernel_rfl) (by kernel_rfl) (by kernel_rfl) (by kernel_rfl) (fun _ _ _ h => h) (.inl ⟨by kernel_rfl, fun w' hS' => by kernel_rfl⟩) hS ?_
                  refine anyS_take 1 (v := .slice Aj j cj) rfl (by kernel_rfl) (by kernel_rfl) (by kernel_rfl) (by kernel_rfl) (fun _ _ _ h => h) (.inl ⟨by kernel_rfl, fun w' hS' => by go_simp⟩) hS ?_
                  refine anyS_take 2 (v := .int .i64 x) rfl (by kernel_rfl) (by kernel_rfl) (by kernel_rfl) (by kernel_rfl) (fun _ _ _ h => h) (.inl ⟨by kernel_rfl, fun w' hS' => by kernel_rfl⟩) hS ?_
                  refine anyS_take 3 (v := .int .i64 z) rfl (by kernel_rfl) (by kernel_rfl) (by kernel_rfl) (by kernel_rfl) (fun _ _ _ h => h) (.inl ⟨by kernel_rfl, fun w' hS' => by go_simp⟩) hS ?_
                  refine anyS_take 5 (v := .int .i64 (j : Int)) rfl (by kernel_rfl) (by kernel_rfl) (by kernel_rfl) (by kernel_rfl) (fun _ _ _ h => h) (.inl ⟨by kernel_rfl, fun w' hS' => by kernel_rfl⟩) hS ?_
                  refine anyS_one 4 rfl (by kernel_rfl) rfl ?_
                  intro K hK
                  go_simp
                  go_at_call 15
                  refine (pk.out _).mono ?_
                  rintro e yy ⟨rfl, rfl⟩
                  refine hK _ _ ⟨fun _ => hS, ?_⟩
                  refine anyS_take 6 (v := .int .i64 (IntKind.i64.wrap (y + (j : Int)))) rfl (by kernel_rfl) (by kernel_rfl) (by kernel_rfl) (by kernel_rfl) (fun _ _ _ h => h) (.inl ⟨by kernel_rfl, fun w' hS' => by kernel_rfl⟩) hS ?_
                  refine anyS_take 7 (v := .int .u8 (IntKind.u8.wrap (IntKind.i64.wrap (y + (j : Int))))) rfl (by kernel_rfl) (by kernel_rfl) (by kernel_rfl) (by kernel_rfl) (fun _ _ _ h => h) (.inl ⟨by kernel_rfl, fun w' hS' => by kernel_rfl⟩) hS ?_
                  refine anyS_one 8 rfl (by kernel_rfl) rfl ?_
                  intro K hK
                  go_simp
                  refine hK _ _ ⟨fun _ => hS8, ?_⟩
                  refine anyS_one 9 rfl (by kernel_rfl) rfl ?_
                  intro K2 hK2
                  refine oper_app _ _ _ rfl _ _ (by rfl) (by rfl) Hrun9.out ?_
                  refine hK2 _ _ ⟨fun _ => hS9, ?_⟩
                  refine anyS_one 10 rfl (by kernel_rfl) rfl ?_
                  intro K3 hK3
                  go_simp
                  refine hK3 _ _ ⟨fun _ => hS9, ?_⟩
                  refine anyS_one 11 rfl (by kernel_rfl) rfl ?_
                  intro K4 hK4
                  go_simp
                  refine hK4 _ _ ⟨fun h => absurd (List.mem_singleton.2 rfl) h, ?_⟩
                  refine anyS_done (by kernel_rfl) ?_
                  go_wp2
                  go_roundg (q - (j + 1))
                  case measure => have := Hgj.out; omega
                  case rel =>
                    have hbx10 := hbx9.set_ 1 (.slice A9 (j + 1) c9)
                    have hro10 : (w9.setCell ⟨wa.heap.size, 1, none⟩ (.slice A9 (j + 1) c9)).ownsRow (wa.heap.size + 1) 5 1 (.slice A9 (j + 1) c9) (j + 1) (d.map bv ++ [.int .u8 (bb.toNat : Int)]) :=
                      ((On2.refl w9 wa.heap.size none).set_ (p := ⟨wa.heap.size, 1, none⟩) (.inl rfl) (.slice A9 (j + 1) c9)).row ho9 (row_box ho9 hbx9 (by decide)) (by cases (Value.slice A9 (j + 1) c9).ownBlock <;> simp)
                    have hb10 : Below wa.heap.size wa w9 := (Hbb.out.trans (hbw2.mono hszj)).grown hg9 (by have := hbw2.size; omega) fun i hi => by have := (World.ownsRow.lt hrowb i hi).1; omega
                    exact ⟨d ++ [bb], j + 1, A9, c9, by go_num, by have := Hdj.out; simp; omega, by omega, by omega, hbx10, by simpa [bv] using hro10, hb10.setCell (p := ⟨wa.heap.size, 1, none⟩) (Nat.le_refl _) _⟩
                · have hjl' : ¬ (j : Int) < (q : Int) := by omega
                  have Hdk := Lib.hid (show d.length ≤ 8 by have := Hdj.out; omega)
                  have HMx := Lib.hid (show MIn wr (fun b => newS w wr b ∧ some b ≠ (Value.slice Am k cm).ownBlock) (Mv.mk 1 d 0) [.int .i64 1, .slice Aj j cj, .int .i64 0] from by
                    have hdl := Hdj.out
                    obtain ⟨A5, c5, he, hA5⟩ := own_form Hrow.out
                    injection he with e1 _ e3
                    subst e1 e3 hdl
                    refine ⟨Aj, cj, rfl, by have := Hdk.out; show d.length ≤ 1048576; omega, ?_, fun h => (hA5 h).2, by constructor <;> simp, by constructor <;> simp, (HoldsS.own Hrow.out).mono fun b hb => ⟨⟨by omega, hb.2⟩, fun e => ?_⟩⟩
                    · rcases Hrow.out.2 with ⟨hv, hn⟩ | ⟨g, cap, cur, hv, _, _, hnc, _⟩
                      · show d.length ≤ cj; omega
                      · injection hv with _ _ hc; show d.length ≤ cj; omega
                    · obtain ⟨xs, ho, _⟩ := Hown.out
                      have := (World.ownsRow.lt ho b e.symm).2
                      have := hb.1
                      omega)
                  have HW := Lib.hid (show Below wa.heap.size wa wr from Hbb.out)
                  have HO := Lib.hid (Hown.out.belowS HW.out)
                  have HM := Lib.hid (show MIn (wr) (fun b => newS w (wr) b ∧ some b ≠ (Value.slice Am k cm).ownBlock) (Mv.mk 1 d 0) [.int .i64 1, .slice Aj j cj, .int .i64 0] from HMx.out)
                  have hs1 : w.heap.size ≤ (wr).heap.size := Nat.le_trans hsz HW.out.size
                  go_wp2_with (at_builtin; refine wpList_putM (by rfl) _ _ (by rfl) w (.slice Am k cm) ms (Mv.mk 1 d 0) [.int .i64 1, .slice Aj j cj, .int .i64 0] (by rfl) HO.out HM.out _ rfl _ (by rfl) (by simp) hm1 hs1 ?_; intro v3 w3 ho3 hb3 hs3)
                  go_wp2
                  go_roundg (lim - (k + 1))
                  case measure => have := Hgk.out; omega
                  case rel =>
                    obtain ⟨A3, c3, rfl⟩ := ho3.form
                    have hl2 : (ms ++ [(Mv.mk 1 d 0)]).length = k + 1 := by have := Hmk.out; simp; omega
                    rw [hl2] at ho3 ⊢
                    refine ⟨ms ++ [(Mv.mk 1 d 0)], k + 1, A3, c3, rfl, by go_num, by omega, by omega, hl2, ?_, ho3, (Hbe.out.trans (HW.out.mono hsz)).trans hb3⟩
                    intro m hm
                    rcases List.mem_append.1 hm with hm | hm
                    · exact Hmd.out m hm
                    · simp at hm; subst hm; simp; have := Hdk.out; omega
      · have h2' : ¬ (k : Int) < (lim : Int) := by omega
        go_wp2_with fail
        go_ret
        have hm := Hmk.out
        subst hm
        exact ⟨ms, Am, cm, rfl, hml, Hmd.out, Hown.out, Hbe.out⟩
    · have h1' : ¬ (k : Int) < (n : Int) := by omega
      have h1'' : decide ((k : Int) < (n : Int)) = false := by simp; omega
      go_wp2_with fail
      go_ret
      have hm := Hmk.out
      subst hm
      exact ⟨ms, Am, cm, rfl, hml, Hmd.out, Hown.out, Hbe.out⟩
end Go.Proofs.Ythkbeliplibiaaa
