/- One-time keys: answer. -/
import Derived.Test.YtgckihglgnbaoaaBunKC
import Derived.Test.YtgckihglgnbaoaaBunQ
import Derived.Test.YtgckihglgnbaoaaShelfN
namespace Go.Proofs.Ytgckihglgnbaoaa
set_option linter.unusedVariables false
set_option linter.unusedSimpArgs false
open Go.RowKit
attribute [local go_sem high] str_mk
theorem kyClone_any (s : List UInt8) (w : World) (hs : s.length ≤ 140737488355328) :
    Calls Try.prog 27 #[str s] w fun e w' => e = .returned (str s) ∧ Below w.heap.size w w' := by
  go_enter Try.func27, Try.ntmps27
  go_wp2_with fail
  refine (Try.stringslite_Clone ⟨s.toArray⟩ _ (by show s.length ≤ _; omega)).mono ?_
  rintro e w1 ⟨rfl, hb⟩
  go_wp2_with fail
  go_ret
  exact ⟨rfl, hb⟩
theorem ret_g1 {fn : Func} {R : Ending → World → Prop} {a : Act} {W : World} {g : Nat} {s1 : Tmp} {x0 x1 x2 x3 x4 x5 : Value}
    (hf : fn.results = #[.cell s1 28]) (h1 : a.tmps.getD s1 undef = .pointer (some ⟨g, 0, none⟩))
    (hb : Blk W g 28 #[x0, x1, x2, x3, x4, x5]) (hd : a.defers = []) (hR : R (.returned (.agg #[x0, x1, x2, x3, x4, x5])) W) : bodyPost Try.prog fn R .ret a W := by
  refine bodyPost_ret ?_ hd hR
  have c0 := hb.cell 0
  have c1 := hb.cell 1
  have c2 := hb.cell 2
  have c3 := hb.cell 3
  have c4 := hb.cell 4
  have c5 := hb.cell 5
  simp only [Array.getD_eq_getD_getElem?] at h1
  simp [results, hf, h1, go_sem, c0, c1, c2, c3, c4, c5]
theorem ky_set6 {w : World} {g : Nat} {t : TypeId} {a0 a1 a2 a3 a4 a5 : Value} (h : Blk w g t #[a0, a1, a2, a3, a4, a5]) (b0 b1 b2 b3 b4 b5 : Value) :
    Blk ((((((w.setCell ⟨g, 0, none⟩ b0).setCell ⟨g, 1, none⟩ b1).setCell ⟨g, 2, none⟩ b2).setCell ⟨g, 3, none⟩ b3).setCell ⟨g, 4, none⟩ b4).setCell ⟨g, 5, none⟩ b5) g t #[b0, b1, b2, b3, b4, b5] := (((((h.set_ 0 b0).set_ 1 b1).set_ 2 b2).set_ 3 b3).set_ 4 b4).set_ 5 b5
theorem Beside.setCell {N : Nat → Prop} {a w : World} (h : Beside N a w) {p : Addr} (hg : a.heap.size ≤ p.block) (v : Value) : Beside N a (w.setCell p v) :=
  ⟨h.os, h.tape, h.output, by have := h.size; simp [World.setCell]; exact this, fun k hk hn => (Below.heap_setCell _ _ _ _ (by omega)).trans (h.block k hk hn)⟩
theorem beside_set6 {N : Nat → Prop} {a w : World} {g : Nat} (h : Beside N a w) (hg : a.heap.size ≤ g) (b0 b1 b2 b3 b4 b5 : Value) :
    Beside N a ((((((w.setCell ⟨g, 0, none⟩ b0).setCell ⟨g, 1, none⟩ b1).setCell ⟨g, 2, none⟩ b2).setCell ⟨g, 3, none⟩ b3).setCell ⟨g, 4, none⟩ b4).setCell ⟨g, 5, none⟩ b5) :=
  (((((h.setCell (p := ⟨g, 0, none⟩) hg _).setCell (p := ⟨g, 1, none⟩) hg _).setCell (p := ⟨g, 2, none⟩) hg _).setCell (p := ⟨g, 3, none⟩) hg _).setCell (p := ⟨g, 4, none⟩) hg _).setCell (p := ⟨g, 5, none⟩) hg _
theorem KsIn.set6 {w : World} {h : Nat} {s : Ks} (k : KsIn w h s) {g : Nat} (hg : h + 4 < g) (b0 b1 b2 b3 b4 b5 : Value) :
    KsIn ((((((w.setCell ⟨g, 0, none⟩ b0).setCell ⟨g, 1, none⟩ b1).setCell ⟨g, 2, none⟩ b2).setCell ⟨g, 3, none⟩ b3).setCell ⟨g, 4, none⟩ b4).setCell ⟨g, 5, none⟩ b5) h s :=
  k.below (B := h + 5) ((((((((Below.refl _ _).setCell (by simp; omega) _).setCell (by simp; omega) _).setCell (by simp; omega) _).setCell (by simp; omega) _).setCell (by simp; omega) _).setCell (by simp; omega) _)) (by omega)
def gvC (g : Gv) : Array Value := #[.int .i64 g.code, str [], str g.id, str g.body, .bool g.spare, .int .i64 g.many]
def APost (h : Nat) (X : Gv × Ks) (w : World) (e : Ending) (w' : World) : Prop := e = .returned (.agg (gvC X.1)) ∧ KsIn w' h X.2 ∧ Beside (Four h) w w'
theorem exec_up_len (s : Ks) (a : Ak) : (execR s a).2.2.up.length ≤ s.up.length + 1 := by
  unfold execR
  split
  · show (leaveR s a.sort a.id a.body).2.up.length ≤ _
    unfold leaveR
    split
    · exact Nat.le_succ _
    · split
      · exact Nat.le_succ _
      · split
        · exact Nat.le_succ _
        · show (putA s.up _ _).length ≤ _
          have h1 := congrArg List.length (put_keys s.up (a.sort, a.id) a.body)
          rw [List.length_map] at h1
          rw [h1]
          split <;> simp
  · split
    · rw [show (kv0, spareR s a.sort a.id a.body).2.2.up = s.up from spare_up ..]; exact Nat.le_succ _
    · split
      · rw [claim_up]; exact Nat.le_succ _
      · split <;> exact Nat.le_succ _
set_option maxHeartbeats 4000000 in
set_option maxRecDepth 100000 in
theorem answer_any (a : Ak) (s : Ks) (h : Nat) (w : World) (hk : KsIn w h s) (hup : s.up.length ≤ 999) (hlm : KLim s) (hg : Gl w) (hgh : 0 < h) (ha : AkOk a) :
    Calls Try.prog 21 #[.pointer (some ⟨h + 4, 0, none⟩), .agg #[.int .i64 a.kind, str a.sort, str a.id, str a.body, .int .i64 a.by_]] w (APost h (ansR s a) w) := by
  have hwh := hk.lt
  obtain ⟨E, hE⟩ : ∃ E, E = (w.alloc (.cells #[.int .i64 a.kind, str a.sort, str a.id, str a.body, .int .i64 a.by_] 55)).alloc (.cells #[.int .i64 0, str [], str [], str [], .bool false, .int .i64 0] 28) := ⟨_, rfl⟩
  have hB1 : Blk E w.heap.size 55 #[.int .i64 a.kind, str a.sort, str a.id, str a.body, .int .i64 a.by_] := by
    rw [hE]; exact (Blk.new w 55 _).alloc _
  have hB2 : Blk E (w.heap.size + 1) 28 #[.int .i64 0, str [], str [], str [], .bool false, .int .i64 0] := by
    rw [hE]
    have := Blk.new (w.alloc (.cells #[.int .i64 a.kind, str a.sort, str a.id, str a.body, .int .i64 a.by_] 55)) 28 #[.int .i64 0, str [], str [], str [], .bool false, .int .i64 0]
    rwa [show (w.alloc (.cells #[.int .i64 a.kind, str a.sort, str a.id, str a.body, .int .i64 a.by_] 55)).heap.size = w.heap.size + 1 by simp] at this
  have hWb : Below w.heap.size w E := by rw [hE]; exact ((Below.refl _ _).alloc (Nat.le_refl _) _).alloc (by simp) _
  have hWs : E.heap.size = w.heap.size + 2 := by rw [hE]; simp
  have HC := Lib.hid (exec_any a s h E (hk.below' hWb) (by omega) (hg.below hWb) hgh ha)
  have HA := Lib.hid (show ansR s a = (if (execR s a).2.1 ≠ 0 then ⟨(execR s a).2.1, [], [], false, 0⟩ else ⟨0, (execR s a).1.id, (execR s a).1.body, (execR s a).1.spare, ((leftR (execR s a).2.2 a.sort).length : Int)⟩, (execR s a).2.2) from rfl)
  have HLm := Lib.hid (hlm.exec ha).1
  have hupl : (execR s a).2.2.up.length ≤ 1000 := by have := exec_up_len s a; omega
  have HWb := Lib.hid hWb
  have HWs := Lib.hid hWs
  have HB1 := Lib.hid hB1
  have HB2 := Lib.hid hB2
  clear hWb hWs hB1 hB2 hk hg ha hlm
  obtain ⟨kd, S, I, B, by_⟩ := a
  simp only at *
  generalize ansR s ⟨kd, S, I, B, by_⟩ = R at *
  generalize execR s ⟨kd, S, I, B, by_⟩ = X at *
  obtain ⟨⟨k1, k2, k3⟩, c, s'⟩ := X
  simp only at *
  go_enter Try.func21, Try.ntmps21
  go_wp2_with fail
  rw [← hE]
  refine HC.out.mono ?_
  rintro e w3 ⟨rfl, hk3, hb3⟩
  have hBr : Blk w3 (w.heap.size + 1) 28 #[.int .i64 0, str [], str [], str [], .bool false, .int .i64 0] := (hb3.block _ (by rw [HWs.out]; omega) (by unfold Four; omega)).trans HB2.out
  have hBa : Blk w3 w.heap.size 55 #[.int .i64 kd, str S, str I, str B, .int .i64 by_] := (hb3.block _ (by rw [HWs.out]; omega) (by unfold Four; omega)).trans HB1.out
  have hsz3 : w.heap.size + 2 ≤ w3.heap.size := by have := hb3.size; rw [HWs.out] at this; exact this
  have Hk3 := Lib.hid hk3
  have Hbe := Lib.hid ((Beside.of_below (N := Four h) HWb.out).trans hb3)
  clear hE hb3 hk3 HC
  obtain ⟨W, hW⟩ : ∃ W, w3.alloc (.cells #[str k1, str k2, .bool k3] 79) = W := ⟨_, rfl⟩
  have hWk := Blk.new w3 79 #[str k1, str k2, .bool k3]
  have hWb : Below w3.heap.size w3 W := by rw [← hW]; exact (Below.refl _ _).alloc (Nat.le_refl _) _
  rw [hW] at hWk
  have hBrW : Blk W (w.heap.size + 1) 28 #[.int .i64 0, str [], str [], str [], .bool false, .int .i64 0] := hBr.below hWb (by omega)
  have hBaW : Blk W w.heap.size 55 #[.int .i64 kd, str S, str I, str B, .int .i64 by_] := hBa.below hWb (by omega)
  have hkW := Hk3.out.below' hWb
  have hbW := Hbe.out.trans (Beside.of_below hWb)
  have hsW : w3.heap.size < W.heap.size := hWk.lt
  have HBrW := Lib.hid hBrW
  have HBaW := Lib.hid hBaW
  have HWk := Lib.hid hWk
  have HkW := Lib.hid hkW
  have HbW := Lib.hid hbW
  by_cases hc : c = 0
  · subst hc
    have HR := Lib.hid (HA.out.trans (by rw [if_neg (by simp)]))
    clear HA
    have hS1 : W.cell? ⟨w3.heap.size, 0, none⟩ = some (str k1) ∧ W.cell? ⟨w3.heap.size, 1, none⟩ = some (str k2) ∧ W.cell? ⟨w3.heap.size, 2, none⟩ = some (.bool k3) ∧ W.cell? ⟨w.heap.size, 1, none⟩ = some (str S) := ⟨hWk.cell 0, hWk.cell 1, hWk.cell 2, hBaW.cell 1⟩
    obtain ⟨Wd, hWd⟩ : ∃ Wd, Wd = W.drew := ⟨_, rfl⟩
    have hS0 : Wd.cell? ⟨w3.heap.size, 0, none⟩ = some (str k1) ∧ Wd.cell? ⟨w3.heap.size, 1, none⟩ = some (str k2) ∧ Wd.cell? ⟨w3.heap.size, 2, none⟩ = some (.bool k3) ∧ Wd.cell? ⟨w.heap.size, 1, none⟩ = some (str S) := by rw [hWd]; exact hS1
    have hbd : Below W.heap.size W Wd := by rw [hWd]; exact (Below.refl _ _).drew
    have HWd := Lib.hid hWd
    have HBd := Lib.hid hbd
    have HS2 : Hid (∀ w2, Below Wd.heap.size Wd w2 → w2.cell? ⟨w3.heap.size, 0, none⟩ = some (str k1) ∧ w2.cell? ⟨w3.heap.size, 1, none⟩ = some (str k2) ∧ w2.cell? ⟨w3.heap.size, 2, none⟩ = some (.bool k3) ∧ w2.cell? ⟨w.heap.size, 1, none⟩ = some (str S)) := Lib.hid fun w2 hb2 => by
      have hl1 : w3.heap.size < Wd.heap.size := Nat.lt_of_lt_of_le hsW hbd.size
      have hl2 : w.heap.size < Wd.heap.size := by omega
      exact ⟨(hb2.cell hl1).trans hS0.1, (hb2.cell hl1).trans hS0.2.1, (hb2.cell hl1).trans hS0.2.2.1, (hb2.cell hl2).trans hS0.2.2.2⟩
    obtain ⟨hv1, hv2⟩ := HLm.out
    simp only at hv1 hv2
    clear hWk hWb hBrW hBaW hkW hbW hBr hBa hWd hbd
    go_wp2_with fail
    refine region_S (fun w' => w'.cell? ⟨w3.heap.size, 0, none⟩ = some (str k1) ∧ w'.cell? ⟨w3.heap.size, 1, none⟩ = some (str k2) ∧ w'.cell? ⟨w3.heap.size, 2, none⟩ = some (.bool k3) ∧ w'.cell? ⟨w.heap.size, 1, none⟩ = some (str S)) [14] (by kernel_rfl) ?_
    rw [← HWd.out]
    refine anyS_take 0 (v := .pointer (some ⟨w3.heap.size, 0, none⟩)) rfl (by kernel_rfl) (by kernel_rfl) (by kernel_rfl) (by kernel_rfl) (fun _ _ _ h => h) (.inl ⟨by kernel_rfl, fun w' hS' => by kernel_rfl⟩) hS0 ?_
    refine anyS_take 1 (v := str k1) rfl (by kernel_rfl) (by kernel_rfl) (by kernel_rfl) (by kernel_rfl) (fun _ _ _ h => h) (.inl ⟨by kernel_rfl, fun w' hS' => by obtain ⟨s1, s2, s3, s4⟩ := hS'; go_simp⟩) hS0 ?_
    refine anyS_take 3 (v := .pointer (some ⟨w3.heap.size, 1, none⟩)) rfl (by kernel_rfl) (by kernel_rfl) (by kernel_rfl) (by kernel_rfl) (fun _ _ _ h => h) (.inl ⟨by kernel_rfl, fun w' hS' => by kernel_rfl⟩) hS0 ?_
    refine anyS_take 4 (v := str k2) rfl (by kernel_rfl) (by kernel_rfl) (by kernel_rfl) (by kernel_rfl) (fun _ _ _ h => h) (.inl ⟨by kernel_rfl, fun w' hS' => by obtain ⟨s1, s2, s3, s4⟩ := hS'; go_simp⟩) hS0 ?_
    refine anyS_take 6 (v := .pointer (some ⟨w3.heap.size, 2, none⟩)) rfl (by kernel_rfl) (by kernel_rfl) (by kernel_rfl) (by kernel_rfl) (fun _ _ _ h => h) (.inl ⟨by kernel_rfl, fun w' hS' => by kernel_rfl⟩) hS0 ?_
    refine anyS_take 7 (v := .bool k3) rfl (by kernel_rfl) (by kernel_rfl) (by kernel_rfl) (by kernel_rfl) (fun _ _ _ h => h) (.inl ⟨by kernel_rfl, fun w' hS' => by obtain ⟨s1, s2, s3, s4⟩ := hS'; go_simp⟩) hS0 ?_
    refine anyS_take 8 (v := .pointer (some ⟨h + 4, 0, none⟩)) rfl (by kernel_rfl) (by kernel_rfl) (by kernel_rfl) (by kernel_rfl) (fun _ _ _ h => h) (.inl ⟨by kernel_rfl, fun w' hS' => by kernel_rfl⟩) hS0 ?_
    refine anyS_take 9 (v := .pointer (some ⟨w.heap.size, 1, none⟩)) rfl (by kernel_rfl) (by kernel_rfl) (by kernel_rfl) (by kernel_rfl) (fun _ _ _ h => h) (.inl ⟨by kernel_rfl, fun w' hS' => by kernel_rfl⟩) hS0 ?_
    refine anyS_take 10 (v := str S) rfl (by kernel_rfl) (by kernel_rfl) (by kernel_rfl) (by kernel_rfl) (fun _ _ _ h => h) (.inl ⟨by kernel_rfl, fun w' hS' => by obtain ⟨s1, s2, s3, s4⟩ := hS'; go_simp⟩) hS0 ?_
    refine anyS_one 2 rfl (by kernel_rfl) rfl ?_
    intro K2 hK2
    go_simp
    refine (kyClone_any k1 Wd hv1).mono ?_
    rintro e w4 ⟨rfl, hb4⟩
    refine hK2 _ _ ⟨fun _ => HS2.out w4 hb4, ?_⟩
    refine anyS_one 5 rfl (by kernel_rfl) rfl ?_
    intro K5 hK5
    go_simp
    refine (kyClone_any k2 w4 hv2).mono ?_
    rintro e w5 ⟨rfl, hb5⟩
    have hb45 := hb4.trans (hb5.mono hb4.size)
    refine hK5 _ _ ⟨fun _ => HS2.out w5 hb45, ?_⟩
    refine anyS_one 11 rfl (by kernel_rfl) rfl ?_
    intro K11 hK11
    go_simp
    refine (left_ok S s' h w5 ((HkW.out.below' HBd.out).below' hb45) hupl).mono ?_
    rintro e w6 ⟨v, rfl, ho, hb6⟩
    obtain ⟨A, cc, rfl, -⟩ := own_form ho
    have hb46 := hb45.trans (hb6.mono hb45.size)
    have hbW6 : Below W.heap.size W w6 := HBd.out.trans (hb46.mono HBd.out.size)
    refine hK11 _ _ ⟨fun _ => HS2.out w6 hb46, ?_⟩
    obtain ⟨m, hm⟩ : ∃ m, (leftR s' S).length = m := ⟨_, rfl⟩
    rw [hm] at HR ⊢
    have hBr6 : Blk w6 (w.heap.size + 1) 28 #[.int .i64 0, str [], str [], str [], .bool false, .int .i64 0] := HBrW.out.below hbW6 (by omega)
    refine anyS_one 12 rfl (by kernel_rfl) rfl ?_
    intro K12 hK12
    go_simp
    refine hK12 _ _ ⟨fun _ => HS2.out w6 hb46, ?_⟩
    refine anyS_one 13 rfl (by kernel_rfl) rfl ?_
    intro K13 hK13
    go_simp
    refine hK13 _ _ ⟨fun _ => HS2.out w6 hb46, ?_⟩
    refine anyS_one 14 rfl (by kernel_rfl) rfl ?_
    intro K14 hK14
    have y0 : w6.cell? ⟨w.heap.size + 1, 0, none⟩ = some (.int .i64 0) := hBr6.cell 0
    have y1 : w6.cell? ⟨w.heap.size + 1, 1, none⟩ = some (str []) := hBr6.cell 1
    have y2 : w6.cell? ⟨w.heap.size + 1, 2, none⟩ = some (str []) := hBr6.cell 2
    have y3 : w6.cell? ⟨w.heap.size + 1, 3, none⟩ = some (str []) := hBr6.cell 3
    have y4 : w6.cell? ⟨w.heap.size + 1, 4, none⟩ = some (.bool false) := hBr6.cell 4
    have y5 : w6.cell? ⟨w.heap.size + 1, 5, none⟩ = some (.int .i64 0) := hBr6.cell 5
    have f0 := hBr6.frozen 0
    have f1 := hBr6.frozen 1
    have f2 := hBr6.frozen 2
    have f3 := hBr6.frozen 3
    have f4 := hBr6.frozen 4
    have f5 := hBr6.frozen 5
    go_simp
    refine hK14 _ _ ⟨fun h => absurd (by decide) h, ?_⟩
    refine anyS_done (by kernel_rfl) ?_
    clear hK2 hK5 hK11 hK12 hK13 hK14
    go_wp2_with fail
    refine ret_g1 (by rfl) (by rfl) (ky_set6 hBr6 _ _ _ _ _ _) (by rfl) ?_
    rw [HR.out]
    exact ⟨rfl, (HkW.out.below' hbW6).set6 (by omega) _ _ _ _ _ _, beside_set6 (HbW.out.trans (Beside.of_below hbW6)) (by omega) _ _ _ _ _ _⟩
  · have HR := Lib.hid (HA.out.trans (by rw [if_pos hc]))
    have y0 : W.cell? ⟨w.heap.size + 1, 0, none⟩ = some (.int .i64 0) := hBrW.cell 0
    have y1 : W.cell? ⟨w.heap.size + 1, 1, none⟩ = some (str []) := hBrW.cell 1
    have y2 : W.cell? ⟨w.heap.size + 1, 2, none⟩ = some (str []) := hBrW.cell 2
    have y3 : W.cell? ⟨w.heap.size + 1, 3, none⟩ = some (str []) := hBrW.cell 3
    have y4 : W.cell? ⟨w.heap.size + 1, 4, none⟩ = some (.bool false) := hBrW.cell 4
    have y5 : W.cell? ⟨w.heap.size + 1, 5, none⟩ = some (.int .i64 0) := hBrW.cell 5
    have f0 := hBrW.frozen 0
    have f1 := hBrW.frozen 1
    have f2 := hBrW.frozen 2
    have f3 := hBrW.frozen 3
    have f4 := hBrW.frozen 4
    have f5 := hBrW.frozen 5
    clear HA hWk hWb hBrW hBaW hkW hbW hBr hBa
    go_wp2_with fail
    refine ret_g1 (by rfl) (by rfl) (ky_set6 HBrW.out _ _ _ _ _ _) (by rfl) ?_
    rw [HR.out]
    exact ⟨rfl, HkW.out.set6 (by omega) _ _ _ _ _ _, beside_set6 HbW.out (by omega) _ _ _ _ _ _⟩
end Go.Proofs.Ytgckihglgnbaoaa
