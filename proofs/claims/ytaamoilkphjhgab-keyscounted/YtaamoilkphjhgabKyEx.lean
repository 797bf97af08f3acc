/- One-time keys: execute. -/
import Derived.Test.YtaamoilkphjhgabKyCm
import Derived.Test.YtaamoilkphjhgabKyCt
namespace Go.Proofs.Ytaamoilkphjhgab
set_option linter.unusedVariables false
set_option linter.unusedSimpArgs false
open Go.RowKit
attribute [local go_sem high] str_mk
/-- What is kept is short enough to be copied. -/
def kvLim (k : Kv) : Prop := k.id.length ≤ 140737488355328 ∧ k.body.length ≤ 140737488355328
structure KLim (s : Ks) : Prop where
  up : ∀ p ∈ s.up, p.1.2.length ≤ 140737488355328 ∧ p.2.length ≤ 140737488355328
  sp : ∀ p ∈ s.sp, kvLim p.2
  cl : ∀ p ∈ s.cl, kvLim p.2
theorem kLim0 : KLim ks0 := ⟨by simp [ks0], by simp [ks0], by simp [ks0]⟩
theorem put_mem {K V : Type} [DecidableEq K] (L : List (K × V)) (k : K) (v : V) : ∀ p ∈ putA L k v, p ∈ L ∨ p = (k, v) := by
  induction L with
  | nil => simp [putA]
  | cons q L ih =>
    unfold putA
    intro p hp
    split at hp
    · rcases List.mem_cons.1 hp with h | h
      · exact .inr h
      · exact .inl (List.mem_cons_of_mem _ h)
    · rcases List.mem_cons.1 hp with h | h
      · exact .inl (by rw [h]; exact List.mem_cons_self)
      · rcases ih p h with h | h
        · exact .inl (List.mem_cons_of_mem _ h)
        · exact .inr h
theorem KLim.give {s : Ks} (h : KLim s) (S : List UInt8) : kvLim (giveR s S).1 ∧ KLim (giveR s S).2.2 := by
  rcases give_cases s S with ⟨n, r, hl, e⟩ | ⟨hl, k, hs, e⟩ | ⟨hl, hs, e⟩
  · rw [e]
    refine ⟨?_, ⟨h.up, h.sp, h.cl⟩⟩
    obtain ⟨p, hp, e1⟩ := List.mem_map.1 (head_left hl).1
    refine ⟨by rw [← e1]; exact (h.up p hp).1, ?_⟩
    show ((getA s.up n).getD []).length ≤ _
    cases hg : getA s.up n with
    | none => simp
    | some v => exact (h.up _ (getA_some_mem hg)).2
  · rw [e]; exact ⟨h.sp _ (getA_some_mem hs), h⟩
  · rw [e]; exact ⟨⟨by simp [kv0], by simp [kv0]⟩, h⟩
theorem KLim.claim {s : Ks} (h : KLim s) (S : List UInt8) (b : Int) : kvLim (claimR s S b).1 ∧ KLim (claimR s S b).2.2 := by
  have h0 : kvLim kv0 := ⟨by simp [kv0], by simp [kv0]⟩
  unfold claimR
  split
  · exact ⟨h0, h⟩
  · split
    · exact ⟨h0, h⟩
    · split
      · rename_i k hk
        exact ⟨h.cl _ (getA_some_mem hk), h⟩
      · split
        · exact ⟨h0, h⟩
        · obtain ⟨g1, g2⟩ := h.give S
          refine ⟨g1, ⟨g2.up, g2.sp, fun p hp => ?_⟩⟩
          rcases put_mem _ _ _ p hp with hp | hp
          · exact g2.cl p hp
          · rw [hp]; exact g1
theorem KLim.exec {s : Ks} (h : KLim s) {a : Ak} (ha : AkOk a) : kvLim (execR s a).1 ∧ KLim (execR s a).2.2 := by
  have h0 : kvLim kv0 := ⟨by simp [kv0], by simp [kv0]⟩
  obtain ⟨h1, h2, h3, _⟩ := ha
  unfold execR
  split
  · refine ⟨h0, ?_⟩
    show KLim (leaveR s a.sort a.id a.body).2
    unfold leaveR
    split
    · exact h
    · split
      · exact h
      · split
        · exact h
        · refine ⟨fun p hp => ?_, h.sp, h.cl⟩
          rcases put_mem _ _ _ p hp with hp | hp
          · exact h.up p hp
          · rw [hp]; exact ⟨h2, h3⟩
  · split
    · refine ⟨h0, ?_⟩
      show KLim (spareR s a.sort a.id a.body).2
      unfold spareR
      split
      · exact h
      · refine ⟨h.up, fun p hp => ?_, h.cl⟩
        rcases put_mem _ _ _ p hp with hp | hp
        · exact h.sp p hp
        · rw [hp]; exact ⟨h2, h3⟩
    · split
      · exact h.claim _ _
      · split <;> exact ⟨h0, h⟩
theorem beside_two {N : Nat → Prop} (w : World) (o1 o2 : Obj) : Beside N w ((w.alloc o1).alloc o2) := ((Beside.refl N w).alloc _).alloc _
set_option maxHeartbeats 4000000 in
set_option maxRecDepth 100000 in
theorem exec_any (a : Ak) (s : Ks) (h : Nat) (w : World) (hk : KsIn w h s) (hup : s.up.length ≤ 1000) (hg : Gl w) (hgh : 0 < h) (ha : AkOk a) :
    Calls Try.prog 20 #[.pointer (some ⟨h + 4, 0, none⟩), .agg #[.int .i64 a.kind, str a.sort, str a.id, str a.body, .int .i64 a.by_]] w (GPost h (execR s a) w) := by
  have hwh := hk.lt
  obtain ⟨E, hE⟩ : ∃ E, E = (w.alloc (.cells #[.int .i64 a.kind, str a.sort, str a.id, str a.body, .int .i64 a.by_] 35)).alloc (.cells #[str [], str [], .bool false] 58) := ⟨_, rfl⟩
  have hB2 : Blk E (w.heap.size + 1) 58 #[str [], str [], .bool false] := by
    rw [hE]
    have := Blk.new (w.alloc (.cells #[.int .i64 a.kind, str a.sort, str a.id, str a.body, .int .i64 a.by_] 35)) 58 #[str [], str [], .bool false]
    rwa [show (w.alloc (.cells #[.int .i64 a.kind, str a.sort, str a.id, str a.body, .int .i64 a.by_] 35)).heap.size = w.heap.size + 1 by simp] at this
  have hWb : Below w.heap.size w E := by rw [hE]; exact ((Below.refl _ _).alloc (Nat.le_refl _) _).alloc (by simp) _
  have hWs : E.heap.size = w.heap.size + 2 := by rw [hE]; simp
  have hkE := hk.below' hWb
  have hgE := hg.below hWb
  have HLv := Lib.hid (leave_any a s h E hkE hup hgE hgh ha)
  have HSp := Lib.hid (spare_any a s h E hkE hgE ha)
  have HCl := Lib.hid (claim_any a.sort a.by_ s h E hkE hup hgE (by have := ha.old.1; omega) ha.old.2.2)
  have HCt := Lib.hid (checkSort_any a.sort E hgE (by have := ha.old.1; omega))
  have HE1 := Lib.hid (exec_leave s a)
  have HE2 := Lib.hid (exec_spare s a)
  have HE3 := Lib.hid (exec_claim s a)
  have HE4 := Lib.hid (exec_count s a)
  have HE5 := Lib.hid (show ¬ a.kind = 1 → ¬ a.kind = 2 → ¬ a.kind = 3 → ¬ a.kind = 4 → execR s a = (kv0, 3, s) from fun h1 h2 h3 h4 => by unfold execR; simp [h1, h2, h3, h4])
  have HkE := Lib.hid hkE
  have HWb := Lib.hid hWb
  have HWs := Lib.hid hWs
  have HB2 := Lib.hid hB2
  clear hkE hgE hWb hWs hB2 hk hg ha
  obtain ⟨kd, S, I, B, by_⟩ := a
  simp only at *
  generalize execR s ⟨kd, S, I, B, by_⟩ = R at *
  generalize leaveR s S I B = R1 at *
  generalize spareR s S I B = R2 at *
  generalize claimR s S by_ = R3 at *
  generalize sortR S = r4 at *
  by_cases k1 : kd = 1
  · subst k1
    have HR := Lib.hid (HE1.out rfl)
    clear HE1 HE2 HE3 HE4 HE5 HSp HCl HCt
    go_enter Try.func20, Try.ntmps20
    go_wp2_with fail
    rw [← hE]
    refine HLv.out.mono ?_
    rintro e w3 ⟨rfl, hk3, hb3⟩
    have hBr : Blk w3 (w.heap.size + 1) 58 #[str [], str [], .bool false] := (hb3.block _ (by rw [HWs.out]; omega) (by unfold Four; omega)).trans HB2.out
    have c0 : w3.cell? ⟨w.heap.size + 1, 0, none⟩ = some (str []) := hBr.cell 0
    have c1 : w3.cell? ⟨w.heap.size + 1, 1, none⟩ = some (str []) := hBr.cell 1
    have c2 : w3.cell? ⟨w.heap.size + 1, 2, none⟩ = some (.bool false) := hBr.cell 2
    have f0 := hBr.frozen 0
    have f1 := hBr.frozen 1
    have f2 := hBr.frozen 2
    have Hk3 := Lib.hid hk3
    have Hbe := Lib.hid ((Beside.of_below (N := Four h) HWb.out).trans hb3)
    clear hE hb3 hk3
    go_wp2_with fail
    refine ret_k2 (by rfl) (by rfl) (by rfl) (ky_set3 hBr _ _ _) (by rfl) ?_
    rw [HR.out]
    exact ⟨rfl, Hk3.out.set3 (by omega) _ _ _, beside_set3 Hbe.out (by omega) _ _ _⟩
  · by_cases k2 : kd = 2
    · subst k2
      have HR := Lib.hid (HE2.out rfl)
      clear HE1 HE2 HE3 HE4 HE5 HLv HCl HCt
      go_enter Try.func20, Try.ntmps20
      go_wp2_with fail
      rw [← hE]
      refine HSp.out.mono ?_
      rintro e w3 ⟨rfl, hk3, hb3⟩
      have hBr : Blk w3 (w.heap.size + 1) 58 #[str [], str [], .bool false] := (hb3.block _ (by rw [HWs.out]; omega) (by unfold Four; omega)).trans HB2.out
      have c0 : w3.cell? ⟨w.heap.size + 1, 0, none⟩ = some (str []) := hBr.cell 0
      have c1 : w3.cell? ⟨w.heap.size + 1, 1, none⟩ = some (str []) := hBr.cell 1
      have c2 : w3.cell? ⟨w.heap.size + 1, 2, none⟩ = some (.bool false) := hBr.cell 2
      have f0 := hBr.frozen 0
      have f1 := hBr.frozen 1
      have f2 := hBr.frozen 2
      have Hk3 := Lib.hid hk3
      have Hbe := Lib.hid ((Beside.of_below (N := Four h) HWb.out).trans hb3)
      clear hE hb3 hk3
      go_wp2_with fail
      refine ret_k2 (by rfl) (by rfl) (by rfl) (ky_set3 hBr _ _ _) (by rfl) ?_
      rw [HR.out]
      exact ⟨rfl, Hk3.out.set3 (by omega) _ _ _, beside_set3 Hbe.out (by omega) _ _ _⟩
    · by_cases k3 : kd = 3
      · subst k3
        have HR := Lib.hid (HE3.out rfl)
        clear HE1 HE2 HE3 HE4 HE5 HLv HSp HCt
        go_enter Try.func20, Try.ntmps20
        go_wp2_with fail
        rw [← hE]
        refine HCl.out.mono ?_
        rintro e w3 ⟨rfl, hk3, hb3⟩
        have hBr : Blk w3 (w.heap.size + 1) 58 #[str [], str [], .bool false] := (hb3.block _ (by rw [HWs.out]; omega) (by unfold Four; omega)).trans HB2.out
        have c0 : w3.cell? ⟨w.heap.size + 1, 0, none⟩ = some (str []) := hBr.cell 0
        have c1 : w3.cell? ⟨w.heap.size + 1, 1, none⟩ = some (str []) := hBr.cell 1
        have c2 : w3.cell? ⟨w.heap.size + 1, 2, none⟩ = some (.bool false) := hBr.cell 2
        have f0 := hBr.frozen 0
        have f1 := hBr.frozen 1
        have f2 := hBr.frozen 2
        have Hk3 := Lib.hid hk3
        have Hbe := Lib.hid ((Beside.of_below (N := Four h) HWb.out).trans hb3)
        clear hE hb3 hk3
        go_wp2_with fail
        refine ret_k2 (by rfl) (by rfl) (by rfl) (ky_set3 hBr _ _ _) (by rfl) ?_
        rw [HR.out]
        exact ⟨rfl, Hk3.out.set3 (by omega) _ _ _, beside_set3 Hbe.out (by omega) _ _ _⟩
      · by_cases k4 : kd = 4
        · subst k4
          have HR := Lib.hid (HE4.out rfl)
          clear HE1 HE2 HE3 HE4 HE5 HLv HSp HCl
          go_enter Try.func20, Try.ntmps20
          go_wp2_with fail
          rw [← hE]
          refine HCt.out.mono ?_
          rintro e w3 ⟨rfl, hb3'⟩
          have hk3 := HkE.out.below' hb3'
          have hb3 : Beside (Four h) E w3 := Beside.of_below hb3'
          clear hb3'
          have hBr : Blk w3 (w.heap.size + 1) 58 #[str [], str [], .bool false] := (hb3.block _ (by rw [HWs.out]; omega) (by unfold Four; omega)).trans HB2.out
          have c0 : w3.cell? ⟨w.heap.size + 1, 0, none⟩ = some (str []) := hBr.cell 0
          have c1 : w3.cell? ⟨w.heap.size + 1, 1, none⟩ = some (str []) := hBr.cell 1
          have c2 : w3.cell? ⟨w.heap.size + 1, 2, none⟩ = some (.bool false) := hBr.cell 2
          have f0 := hBr.frozen 0
          have f1 := hBr.frozen 1
          have f2 := hBr.frozen 2
          have Hk3 := Lib.hid hk3
          have Hbe := Lib.hid ((Beside.of_below (N := Four h) HWb.out).trans hb3)
          clear hE hb3 hk3
          go_wp2_with fail
          refine ret_k2 (by rfl) (by rfl) (by rfl) (ky_set3 hBr _ _ _) (by rfl) ?_
          rw [HR.out]
          exact ⟨rfl, Hk3.out.set3 (by omega) _ _ _, beside_set3 Hbe.out (by omega) _ _ _⟩
        · have HR := Lib.hid (HE5.out k1 k2 k3 k4)
          clear HE1 HE2 HE3 HE4 HE5 HLv HSp HCl HCt
          go_enter Try.func20, Try.ntmps20
          go_wp2_with fail
          rw [← hE]
          refine ret_k2 (by rfl) (by rfl) (by rfl) HB2.out (by rfl) ?_
          rw [HR.out]
          exact ⟨rfl, HkE.out, Beside.of_below HWb.out⟩
end Go.Proofs.Ytaamoilkphjhgab
