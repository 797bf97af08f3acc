/- One-time keys: Play. -/
import Derived.Test.YtgckihglgnbaoaaKyAn
import Derived.Test.YtgckihglgnbaoaaPcK
import Derived.Test.YtgckihglgnbaoaaRwApp
import Derived.Laws.MakeOwn
namespace Go.Proofs.Ytgckihglgnbaoaa
set_option linter.unusedVariables false
set_option linter.unusedSimpArgs false
open Go.RowKit
attribute [local go_sem high] str_mk
def akL (a : Ak) : List Value := [.int .i64 a.kind, str a.sort, str a.id, str a.body, .int .i64 a.by_]
def gvL (g : Gv) : List Value := [.int .i64 g.code, str [], str g.id, str g.body, .bool g.spare, .int .i64 g.many]
theorem akL_len (a : Ak) : (akL a).length = 5 := rfl
theorem gvL_len (g : Gv) : (gvL g).length = 6 := rfl
theorem akL_one (a : Ak) : ∀ u ∈ akL a, u.oneCell' = true := by
  intro u hu; simp [akL] at hu; rcases hu with rfl | rfl | rfl | rfl | rfl <;> rfl
theorem gvL_one (g : Gv) : ∀ u ∈ gvL g, u.oneCell' = true := by
  intro u hu; simp [gvL] at hu; rcases hu with rfl | rfl | rfl | rfl | rfl | rfl <;> rfl
theorem info_given : (Try.prog.info? 28).map (fun i => (i.zero, i.size, i.bytes)) = some (some (.agg #[.int .i64 0, .string ⟨#[]⟩, .string ⟨#[]⟩, .string ⟨#[]⟩, .bool false, .int .i64 0]), 6, 72) := by kernel_rfl
theorem info_ask : (Try.prog.info? 55).map (fun i => (i.zero, i.size, i.bytes)) = some (some (.agg #[.int .i64 0, .string ⟨#[]⟩, .string ⟨#[]⟩, .string ⟨#[]⟩, .int .i64 0]), 5, 64) := by kernel_rfl
set_option maxRecDepth 100000 in
theorem empty_any (w : World) : Calls Try.prog 20 #[] w fun e w' => e = .returned (.pointer (some ⟨w.heap.size + 4, 0, none⟩)) ∧ KsIn w' w.heap.size ks0 ∧ Below w.heap.size w w' ∧ w'.heap.size = w.heap.size + 5 := by
  have hmm := @run_makeMap Try.prog
  have HX := Lib.hid (show KsIn (((((w.alloc (.map #[] 0)).alloc (.map #[] 0)).alloc (.map #[] 0)).alloc (.map #[] 0)).alloc (.cells #[.map (some w.heap.size), .map (some (w.heap.size + 1)), .map (some (w.heap.size + 2)), .map (some (w.heap.size + 3))] 77)) w.heap.size ks0 from by
    have s1 : (w.alloc (.map #[] 0)).heap.size = w.heap.size + 1 := by simp
    have s2 : ((w.alloc (.map #[] 0)).alloc (.map #[] 0)).heap.size = w.heap.size + 2 := by simp
    have s3 : (((w.alloc (.map #[] 0)).alloc (.map #[] 0)).alloc (.map #[] 0)).heap.size = w.heap.size + 3 := by simp
    have s4 : ((((w.alloc (.map #[] 0)).alloc (.map #[] 0)).alloc (.map #[] 0)).alloc (.map #[] 0)).heap.size = w.heap.size + 4 := by simp
    have hN : ¬ (fun _ : Nat => False) 0 := fun h => h
    have m1 := MapIs.made w ekN str okN
    have m2 := MapIs.made (w.alloc (.map #[] 0)) ekN Value.bool okN
    have m3 := MapIs.made ((w.alloc (.map #[] 0)).alloc (.map #[] 0)) str evK okS
    have m4 := MapIs.made (((w.alloc (.map #[] 0)).alloc (.map #[] 0)).alloc (.map #[] 0)) ekC evK okC
    rw [s1] at m2
    rw [s2] at m3
    rw [s3] at m4
    have b := Blk.new ((((w.alloc (.map #[] 0)).alloc (.map #[] 0)).alloc (.map #[] 0)).alloc (.map #[] 0)) 77 #[.map (some w.heap.size), .map (some (w.heap.size + 1)), .map (some (w.heap.size + 2)), .map (some (w.heap.size + 3))]
    rw [s4] at b
    refine ⟨b, m1.beside ((((Beside.refl (fun _ => False) _).alloc _).alloc _).alloc _ |>.alloc _) (fun h => h), m2.beside ((((Beside.refl (fun _ => False) _).alloc _).alloc _).alloc _) (fun h => h), m3.beside (((Beside.refl (fun _ => False) _).alloc _).alloc _) (fun h => h), m4.beside ((Beside.refl (fun _ => False) _).alloc _) (fun h => h)⟩)
  go_enter Try.func20, Try.ntmps20
  go_wp2_with fail
  go_ret
  exact ⟨rfl, HX.out, (((((Below.refl _ _).alloc (Nat.le_refl _) _).alloc (by simp) _).alloc (by simp; omega) _).alloc (by simp; omega) _).alloc (by simp; omega) _, by simp⟩
def playK (aks : List Ak) : List Gv × Int := if 100 < aks.length then ([], 1) else ((asksR ks0 aks).1, 0)
def PKPost (X : List Gv × Int) (w : World) (e : Ending) (w' : World) : Prop :=
  ∃ (A : Option Addr) (c : Nat), e = .returned (.tuple #[.slice A X.1.length c, .int .i64 X.2]) ∧ LIn gvL 6 w' w'.heap.size A X.1.length c X.1 ∧ Below w.heap.size w w'
def PKR (w : World) (aks : List Ak) (n : Nat) (gk : Nat) (s5 s17 : Value) (wr : World) : Prop :=
  ∃ k ob, s17 = .int .i64 (k : Nat) ∧ k ≤ n ∧ gk = n - k ∧ s5.ownBlock = ob ∧ wr.ownsRow (w.heap.size + 5) 28 6 s5 k (pcK gvL (asksR ks0 (aks.take k)).1) ∧ KsIn wr w.heap.size (asksR ks0 (aks.take k)).2 ∧ Below w.heap.size w wr ∧ w.heap.size + 5 ≤ wr.heap.size
theorem asks_up_len : ∀ (l : List Ak) (s : Ks), (asksR s l).2.up.length ≤ s.up.length + l.length
  | [], s => Nat.le_refl _
  | a :: l, s => by
    have h1 := asks_up_len l (ansR s a).2
    have h2 := exec_up_len s a
    have h3 : (ansR s a).2.up.length ≤ s.up.length + 1 := h2
    show (asksR (ansR s a).2 l).2.up.length ≤ _
    simp only [List.length_cons]
    omega
theorem KLim.asks : ∀ (l : List Ak) {s : Ks}, KLim s → (∀ a ∈ l, AkOk a) → KLim (asksR s l).2
  | [], _, h, _ => h
  | a :: l, _, h, ha => KLim.asks l (s := (ansR _ a).2) (h.exec (ha a List.mem_cons_self)).2 (fun b hb => ha b (List.mem_cons_of_mem _ hb))
set_option maxHeartbeats 4000000 in
set_option maxRecDepth 100000 in
theorem kplay_any (A : Option Addr) (n c B : Nat) (aks : List Ak) (w : World) (hl : LIn akL 5 w B A n c aks) (hB : B ≤ w.heap.size) (hn : n ≤ 9223372036854775807) (hg : Gl w) (hok : ∀ a ∈ aks, AkOk a) :
    Calls Try.prog 11 #[.slice A n c] w (PKPost (playK aks) w) := by
  have hln := hl.1
  by_cases hbig : 100 < n
  · have HE := Lib.hid (show playK aks = ([], 1) by unfold playK; rw [if_pos (by omega)])
    have hb : (100 : Int) < (n : Int) := by omega
    clear hl hln
    go_enter Try.func11, Try.ntmps11
    go_wp2_with fail
    go_ret2
    rw [HE.out]
    exact ⟨none, 0, rfl, LIn.empty, Below.refl _ _⟩
  · have HE := Lib.hid (show playK aks = ((asksR ks0 aks).1, 0) by unfold playK; rw [if_neg (by omega)])
    have hb : ¬ (100 : Int) < (n : Int) := by omega
    have Hl := Lib.hid hl
    have Hln := Lib.hid hln
    have Hok := Lib.hid hok
    have hglt : 0 < w.heap.size := hg.lt
    have Hg := Lib.hid hg
    clear hl hln hok hg
    go_enter Try.func11, Try.ntmps11
    go_wp2_with fail
    refine (empty_any w).mono ?_
    rintro e w1 ⟨rfl, hk1, hb1, hs1⟩
    obtain ⟨i0, hi0, hz0, hz1, hz2⟩ := info_parts info_given
    obtain ⟨w3, hrun, r1, r2⟩ := run_make_own (P := Try.prog) w1 (w.heap.size + 5) 23 28 i0 _ 6 Try.underlying23 hi0 hz0 hz1 .i64 .i64 n (by rw [hz2]; omega) (by unfold maxLen; omega) (by omega)
    rw [hs1] at hrun r1
    have hb3 : Below w.heap.size w w3 := hb1.grown r2 (by omega) (by simp)
    have Hst := Lib.hid (show PKR w aks n n (.slice (some ⟨w.heap.size + 5, 0, none⟩) 0 n) (.int .i64 0) w3 from ⟨0, _, rfl, Nat.zero_le _, by omega, rfl, r1, hk1.beside (Beside.of_grown r2) (fun b _ _ e => by cases e), hb3, by have := r2.size; omega⟩)
    clear hk1 hb1 r1 r2 hb3 hz0 hz1 hz2 hi0
    go_wp2_with fail
    go_loopg [5, 17] n (PKR w aks n)
    case atStart => exact Hst.out
    case round =>
      clear Hst hrun
      obtain ⟨k, ob, rfl, hk, hgk, hob, ho, hks, hbe, hsz⟩ := hrel
      have Hgk := Lib.hid hgk
      have Hob := Lib.hid hob
      have Ho := Lib.hid ho
      have Hks := Lib.hid hks
      have Hbe := Lib.hid hbe
      clear hgk hob ho hks hbe
      by_cases hkn : k < n
      · have hkl : k < aks.length := by rw [Hln.out]; exact hkn
        have htk : (aks.take k).length = k := by rw [List.length_take]; omega
        have hup : (asksR ks0 (aks.take k)).2.up.length ≤ 999 := by
          have := asks_up_len (aks.take k) ks0
          rw [htk] at this
          have h0 : ks0.up.length = 0 := rfl
          omega
        have hlm : KLim (asksR ks0 (aks.take k)).2 := KLim.asks _ kLim0 fun a ha => Hok.out a (List.mem_of_mem_take ha)
        have hak := Hok.out aks[k] (List.getElem_mem hkl)
        obtain ⟨b, off, hA, hbB, hcell⟩ := (Hl.out.below (Hbe.out.mono hB)).at_ akL_len hkl
        subst hA
        have HT := Lib.hid (show asksR ks0 (aks.take (k + 1)) = ((asksR ks0 (aks.take k)).1 ++ [(ansR (asksR ks0 (aks.take k)).2 aks[k]).1], (ansR (asksR ks0 (aks.take k)).2 aks[k]).2) by rw [List.take_succ_eq_append_getElem hkl, asksR_snoc])
        generalize aks[k] = a at *
        generalize asksR ks0 (aks.take k) = P at *
        have d0 : wr.cell? ⟨b, off + k * 5, none⟩ = some (.int .i64 a.kind) := hcell 0 _ (by omega) rfl
        have d1 : wr.cell? ⟨b, off + k * 5 + 1, none⟩ = some (str a.sort) := by have := hcell 1 _ (by omega) rfl; rwa [← Nat.add_assoc] at this
        have d2 : wr.cell? ⟨b, off + k * 5 + 2, none⟩ = some (str a.id) := by have := hcell 2 _ (by omega) rfl; rwa [← Nat.add_assoc] at this
        have d3 : wr.cell? ⟨b, off + k * 5 + 3, none⟩ = some (str a.body) := by have := hcell 3 _ (by omega) rfl; rwa [← Nat.add_assoc] at this
        have d4 : wr.cell? ⟨b, off + k * 5 + 4, none⟩ = some (.int .i64 a.by_) := by have := hcell 4 _ (by omega) rfl; rwa [← Nat.add_assoc] at this
        obtain ⟨W, hW⟩ : ∃ W, wr.alloc (.cells #[.int .i64 a.kind, str a.sort, str a.id, str a.body, .int .i64 a.by_] 55) = W := ⟨_, rfl⟩
        have hWB := Blk.new wr 55 #[.int .i64 a.kind, str a.sort, str a.id, str a.body, .int .i64 a.by_]
        have hWb : Below wr.heap.size wr W := by rw [← hW]; exact (Below.refl _ _).alloc (Nat.le_refl _) _
        rw [hW] at hWB
        have x0 : W.cell? ⟨wr.heap.size, 0, none⟩ = some (.int .i64 a.kind) := hWB.cell 0
        have x1 : W.cell? ⟨wr.heap.size, 1, none⟩ = some (str a.sort) := hWB.cell 1
        have x2 : W.cell? ⟨wr.heap.size, 2, none⟩ = some (str a.id) := hWB.cell 2
        have x3 : W.cell? ⟨wr.heap.size, 3, none⟩ = some (str a.body) := hWB.cell 3
        have x4 : W.cell? ⟨wr.heap.size, 4, none⟩ = some (.int .i64 a.by_) := hWB.cell 4
        have hWl : wr.heap.size < W.heap.size := hWB.lt
        have HC := Lib.hid (answer_any a P.2 w.heap.size W (Hks.out.below' hWb) hup hlm (Hg.out.below (Hbe.out.trans (hWb.mono Hbe.out.size))) hglt hak)
        have Ho2 := Lib.hid (own_below Ho.out hWb)
        have Hbe2 := Lib.hid (Hbe.out.trans (hWb.mono Hbe.out.size))
        have hbw : b < wr.heap.size := by have := Hbe.out.size; omega
        have hi1 : (k : Int) < (n : Int) := by omega
        have Hnn : Hid (k + 1 ≤ 1048576) := Lib.hid (by omega)
        clear hup hlm hak hcell hWB hWb Ho Hks Hbe htk
        generalize ansR P.2 a = X at *
        go_wp2_with fail
        refine HC.out.mono ?_
        rintro e w2 ⟨rfl, hk2, hb2⟩
        have ho2 := own_kept Ho2.out (fun g hg => hb2.block g (Ho2.out.lt g hg).2 (by have := (Ho2.out.lt g hg).1; unfold Four; omega))
        have hsz2 : w.heap.size + 5 ≤ w2.heap.size := by have := hb2.size; omega
        obtain ⟨⟨gc, gi, gb, gs, gm⟩, sx⟩ := X
        obtain ⟨v', wf, hrun, ho3, hg3, -⟩ := run_app_el (P := Try.prog) (enc := gvL) gvL_len gvL_one (by omega) Try.underlying23 info_given rfl (by omega) w2 (w.heap.size + 5) k _ P.1 ⟨gc, gi, gb, gs, gm⟩ #[.int .i64 gc, str [], str gi, str gb, .bool gs, .int .i64 gm] rfl ho2 Hnn.out hsz2
        have Hrun := Lib.hid hrun
        rw [Hob.out] at hg3
        have hbs : Beside (fun i => ob = some i) w2 wf := ((Beside.refl _ w2).alloc _).trans (Beside.of_grown hg3)
        have hobn : ∀ b, ob = some b → w.heap.size + 5 ≤ b := fun b hb => (Ho2.out.lt b (Hob.out.trans hb)).1
        have Hk3 := Lib.hid (hk2.beside hbs (fun b h1 h2 e => by have := hobn b e; omega))
        have hbe3 : Below w.heap.size w w2 := Hbe2.out.trans (hb2.below (fun k hk => hk.1) Hbe2.out.size)
        have Hb3 := Lib.hid (hbe3.trans (hbs.below (fun k hk => by have := hobn k hk; omega) hbe3.size))
        have Ho3 := Lib.hid ho3
        have hszf : w.heap.size + 5 ≤ wf.heap.size := by have := hbs.size; omega
        clear hk2 hb2 ho2 hrun ho3 hg3 hbs hobn hbe3 HC Ho2 Hbe2
        unfold gvC
        dsimp only at Hk3 HT ⊢
        go_wp2_with (first | (at_builtin; refine rw_app rfl _ _ _ rfl _ _ (by rfl) (by rfl) Hrun.out ?_; clear Hrun) | fail)
        go_roundg (n - (k + 1))
        case measure => have := Hgk.out; omega
        case rel => exact ⟨k + 1, _, by go_num, by omega, rfl, rfl, by rw [HT.out]; exact Ho3.out, by rw [HT.out]; exact Hk3.out, Hb3.out, hszf⟩
      · have hte : aks.take k = aks := List.take_of_length_le (by have := Hln.out; omega)
        have ho := Ho.out
        rw [hte] at ho
        have hlen : (asksR ks0 aks).1.length = k := by rw [asksR_len, Hln.out]; omega
        rw [← hlen] at ho
        obtain ⟨A2, c2, hv, hli⟩ := LIn.own gvL_len ho
        subst hv
        have Hli := Lib.hid hli
        have hi1 : ¬ (k : Int) < (n : Int) := by omega
        clear hli ho hlen hte Ho
        go_wp2_with fail
        go_ret2
        rw [HE.out]
        exact ⟨A2, c2, rfl, Hli.out, Hbe.out⟩
end Go.Proofs.Ytgckihglgnbaoaa
