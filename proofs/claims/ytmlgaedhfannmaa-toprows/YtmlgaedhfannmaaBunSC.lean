/- Joined texts: StGet, StCrash. -/
import Derived.Test.YtmlgaedhfannmaaBunSB
import Derived.Test.YtmlgaedhfannmaaBunRB
import Derived.Test.YtmlgaedhfannmaaBunQ
import Derived.Test.YtmlgaedhfannmaaStRcv
/- The store: get, pack. -/
namespace Go.Proofs.Ytmlgaedhfannmaa
set_option linter.unusedVariables false
set_option linter.unusedSimpArgs false
open Go.RowKit
theorem look_mem {k : List UInt8} : ∀ {l : List Rw}, look l k ≠ [] → ∃ r ∈ l, r.key = k ∧ r.val = look l k
  | [], h => absurd rfl h
  | r :: l, h => by
    unfold look at h ⊢
    by_cases hk : r.key = k
    · rw [if_pos hk]; exact ⟨r, by simp, hk, rfl⟩
    · rw [if_neg hk] at h ⊢
      obtain ⟨q, hq, h1⟩ := look_mem h
      exact ⟨q, by simp [hq], h1⟩
def getN (t : List Rw) (k : List UInt8) : Int × List Rw := if look t k = [] then (8, []) else (0, [⟨k, look t k⟩])
/-- Rows of the call's own, and a code. -/
def TellPost (X : Int × List Rw) (w : World) (e : Ending) (w' : World) : Prop :=
  ∃ (A : Option Addr) (c : Nat), e = .returned (.tuple #[.slice A X.2.length c, .int .i64 X.1]) ∧ RInS w' (fun b => w.heap.size ≤ b) A X.2.length c X.2 ∧ Below w.heap.size w w'
theorem RInS.nil {w : World} {S : Nat → Prop} : RInS w S none 0 0 [] := ⟨rfl, Nat.le_refl _, fun _ => rfl, HoldsS.nil⟩
theorem row_lit (W : World) (k v : List UInt8) (base : Nat) (hb : base ≤ W.heap.size) : RInS (W.alloc (.cells #[str k, str v] 51)) (fun b => base ≤ b) (some ⟨W.heap.size, 0, none⟩) 1 1 [⟨k, v⟩] := by
  refine ⟨rfl, Nat.le_refl _, fun h => (by cases h), rfl, fun _ => ⟨W.heap.size, 0, rfl, hb, fun j u hu => ?_⟩⟩
  rw [Nat.zero_add, (Blk.new W 51 _).cell j]
  simpa [pcR, rc] using hu
set_option maxHeartbeats 1000000 in
set_option maxRecDepth 100000 in
theorem get_any {N : Nat → Prop} (g : Nat) (s : List Rw × List UInt8) (k : List UInt8) (w : World) (hst : StIn N w g s) (hft : Fit s.1) (hk : k.length ≤ 9223372036854775807) :
    Calls Try.prog 56 #[.pointer (some ⟨g, 0, none⟩), str k] w (TellPost (getN s.1 k) w) := by
  have hg := hst.lt
  obtain ⟨Af, cf, At, ct, hB, hbf, hbt⟩ := hst
  have c1 : w.cell? ⟨g, 1, none⟩ = some (.slice At s.1.length ct) := hB.cell 1
  have HF := Lib.hid (find_any At s.1.length ct w.heap.size s.1 k w hbt.all (Nat.le_refl _) (fun r hr => by have := hft.shortR r hr; omega) (by have := hft.len; omega) hk)
  have hfn : findN s.1 k = if look s.1 k = [] then ([], 8) else (look s.1 k, 0) := by unfold findN; rw [if_neg (by simp [hft.chk])]
  by_cases hx : look s.1 k = []
  · have HE := Lib.hid (show getN s.1 k = (8, []) by unfold getN; rw [if_pos hx])
    rw [hfn, if_pos hx] at HF
    clear hB hbf hbt hfn hx
    go_enter Try.func56, Try.ntmps56
    go_wp2_with fail
    refine HF.out.mono ?_
    rintro e w1 ⟨rfl, hb1⟩
    have Hb1 := Lib.hid hb1
    clear hb1 HF
    go_wp2_with fail
    go_ret2
    rw [HE.out]
    exact ⟨none, 0, rfl, RInS.nil, Hb1.out⟩
  · have HE := Lib.hid (show getN s.1 k = (0, [⟨k, look s.1 k⟩]) by unfold getN; rw [if_neg hx])
    rw [hfn, if_neg hx] at HF
    obtain ⟨r, hr, hrk, _⟩ := look_mem hx
    have hk20 : k.length ≤ 20 := by have := (hft.shortR r hr).1; rw [hrk] at this; exact this
    generalize look s.1 k = x at *
    have HC := Lib.hid (fun W => rwClone_any k W hk20)
    clear hB hbf hbt hfn hx hr hrk
    go_enter Try.func56, Try.ntmps56
    go_wp2_with fail
    refine HF.out.mono ?_
    rintro e w1 ⟨rfl, hb1⟩
    have Hb1 := Lib.hid hb1
    clear hb1 HF
    go_wp2_with fail
    refine (HC.out w1).mono ?_
    rintro e w2 ⟨rfl, hb2⟩
    have Hb2 := Lib.hid (Hb1.out.trans (hb2.mono Hb1.out.size))
    have Hrl := Lib.hid (row_lit w2 k x w.heap.size Hb2.out.size)
    clear hb2 HC
    go_wp2_with fail
    go_ret2
    rw [HE.out]
    exact ⟨_, 1, rfl, Hrl.out, Hb2.out.alloc Hb2.out.size _⟩
set_option maxHeartbeats 2000000 in
set_option maxRecDepth 100000 in
theorem packS_any {N : Nat → Prop} (g : Nat) (s : List Rw × List UInt8) (w : World) (hst : StIn N w g s) (hN : ∀ b, N b → b < w.heap.size) (hft : Fit s.1) (hf : s.2.length ≤ 1200) (hp : (pkF s.1).length ≤ 1200) :
    Calls Try.prog 58 #[.pointer (some ⟨g, 0, none⟩)] w (ActPost N g (0, (s.1, pkF s.1)) w) := by
  have hg := hst.lt
  have Hst := Lib.hid hst
  obtain ⟨Af, cf, At, ct, hB, hbf, hbt⟩ := hst
  have c1 : w.cell? ⟨g, 1, none⟩ = some (.slice At s.1.length ct) := hB.cell 1
  have hgc : goodC s.1 = true := List.all_eq_true.2 fun r hr => (hft.good r hr).1
  have HP := Lib.hid (stPack_any At s.1.length ct w.heap.size s.1 w.drew (hbt.all.below (Below.refl _ w).drew) (Nat.le_refl _) (by have := hft.len; omega) hgc)
  have hrp := run_pack (f := s.2) (b := pkF s.1) hf hp
  have Hrp := Lib.hid hrp
  clear hB hbf hbt hrp
  go_enter Try.func58, Try.ntmps58
  go_wp2_with fail
  refine region_S (fun w' => w'.cell? ⟨g, 1, none⟩ = some (.slice At s.1.length ct)) [] (by kernel_rfl) ?_
  have hS0 : w.drew.cell? ⟨g, 1, none⟩ = some (.slice At s.1.length ct) := c1
  refine anyS_take 0 (v := .pointer (some ⟨g, 0, none⟩)) rfl (by kernel_rfl) (by kernel_rfl) (by kernel_rfl) (by kernel_rfl) (fun _ _ _ h => h) (.inl ⟨by kernel_rfl, fun w' hS' => by kernel_rfl⟩) hS0 ?_
  refine anyS_take 1 (v := .pointer (some ⟨g, 0, none⟩)) rfl (by kernel_rfl) (by kernel_rfl) (by kernel_rfl) (by kernel_rfl) (fun _ _ _ h => h) (.inl ⟨by kernel_rfl, fun w' hS' => by go_simp⟩) hS0 ?_
  refine anyS_take 2 (v := .pointer (some ⟨g, 0, none⟩)) rfl (by kernel_rfl) (by kernel_rfl) (by kernel_rfl) (by kernel_rfl) (fun _ _ _ h => h) (.inl ⟨by kernel_rfl, fun w' hS' => by go_simp⟩) hS0 ?_
  refine anyS_take 3 (v := .agg #[.int .i64 3, .slice none 0 0, .int .i64 0]) rfl (by kernel_rfl) (by kernel_rfl) (by kernel_rfl) (by kernel_rfl) (fun _ _ _ h => h) (.inl ⟨by kernel_rfl, fun w' hS' => by go_simp⟩) hS0 ?_
  refine anyS_take 4 (v := .pointer (some ⟨g, 0, none⟩)) rfl (by kernel_rfl) (by kernel_rfl) (by kernel_rfl) (by kernel_rfl) (fun _ _ _ h => h) (.inl ⟨by kernel_rfl, fun w' hS' => by kernel_rfl⟩) hS0 ?_
  refine anyS_take 5 (v := .pointer (some ⟨g, 0, none⟩)) rfl (by kernel_rfl) (by kernel_rfl) (by kernel_rfl) (by kernel_rfl) (fun _ _ _ h => h) (.inl ⟨by kernel_rfl, fun w' hS' => by go_simp⟩) hS0 ?_
  refine anyS_take 6 (v := .pointer (some ⟨g, 1, none⟩)) rfl (by kernel_rfl) (by kernel_rfl) (by kernel_rfl) (by kernel_rfl) (fun _ _ _ h => h) (.inl ⟨by kernel_rfl, fun w' hS' => by go_simp⟩) hS0 ?_
  refine anyS_take 7 (v := .slice At s.1.length ct) rfl (by kernel_rfl) (by kernel_rfl) (by kernel_rfl) (by kernel_rfl) (fun _ _ _ h => h) (.inl ⟨by kernel_rfl, fun w' hS' => by have y := hS'; go_simp⟩) hS0 ?_
  refine anyS_take 10 (v := .agg #[.int .i64 2, .slice none 0 0, .int .i64 0]) rfl (by kernel_rfl) (by kernel_rfl) (by kernel_rfl) (by kernel_rfl) (fun _ _ _ h => h) (.inl ⟨by kernel_rfl, fun w' hS' => by go_simp⟩) hS0 ?_
  refine anyS_one 8 rfl (by kernel_rfl) rfl ?_
  intro K8 hK8
  go_simp
  refine HP.out.mono ?_
  rintro e w1 ⟨vb, rfl, ho1, hb1⟩
  have hS1 : w1.cell? ⟨g, 1, none⟩ = some (.slice At s.1.length ct) := (hb1.cell (p := ⟨g, 1, none⟩) hg).trans hS0
  refine hK8 _ _ ⟨fun _ => hS1, ?_⟩
  obtain ⟨Ab, cb, rfl, hbb⟩ := BIn.row (l := pkF s.1) ho1
  obtain ⟨pl, hpl⟩ : ∃ pl, (pkF s.1).length = pl := ⟨_, rfl⟩
  rw [hpl] at hbb
  simp only [hpl]
  refine anyS_take 9 (v := .agg #[.int .i64 1, .slice Ab pl cb, .int .i64 0]) rfl (by kernel_rfl) (by kernel_rfl) (by kernel_rfl) (by kernel_rfl) (fun _ _ _ h => h) (.inl ⟨by kernel_rfl, fun w' hS' => by go_simp⟩) hS1 ?_
  refine anyS_one 11 rfl (by kernel_rfl) rfl ?_
  intro K11 hK11
  go_simp
  have hmi : MsIn w1 (fun b => b < w1.heap.size) [⟨3, [], 0⟩, ⟨1, pkF s.1, 0⟩, ⟨2, [], 0⟩] ([.int .i64 3, .slice none 0 0, .int .i64 0] ++ ([.int .i64 1, .slice Ab pl cb, .int .i64 0] ++ ([.int .i64 2, .slice none 0 0, .int .i64 0] ++ []))) :=
    MsIn.cons (min_bare 3 0 (by omega) (by omega)) (MsIn.cons (min_write (hbb.mono fun b hb _ => hb) (by omega)) (MsIn.cons (min_bare 2 0 (by omega) (by omega)) MsIn.none))
  have hmv := mvs_lit w1 _ _ 3 rfl hmi #[.int .i64 3, .slice none 0 0, .int .i64 0, .int .i64 1, .slice Ab pl cb, .int .i64 0, .int .i64 2, .slice none 0 0, .int .i64 0] rfl
  obtain ⟨W, hW⟩ : ∃ W, w1.alloc (.cells #[.int .i64 3, .slice none 0 0, .int .i64 0, .int .i64 1, .slice Ab pl cb, .int .i64 0, .int .i64 2, .slice none 0 0, .int .i64 0] 158) = W := ⟨_, rfl⟩
  have hWb : Below w1.heap.size w1 W := by rw [← hW]; exact (Below.refl _ _).alloc (Nat.le_refl _) _
  rw [hW] at hmv ⊢
  have hb1' : Below w.heap.size w w1 := (Below.refl _ w).drew.trans hb1
  have hS2 : W.cell? ⟨g, 1, none⟩ = some (.slice At s.1.length ct) := (hWb.cell (p := ⟨g, 1, none⟩) (by have := hb1'.size; show g < _; omega)).trans hS1
  have HD := Lib.hid (drive_any4 g s _ _ 3 3 W ((Hst.out.below hb1').below hWb) (nUp hN (Nat.le_trans hb1'.size hWb.size)) hmv (by omega) hf)
  unfold DrvPost at HD
  rw [Hrp.out] at HD
  refine hK11 _ _ ⟨fun _ => hS2, ?_⟩
  refine anyS_one 12 rfl (by kernel_rfl) rfl ?_
  intro K12 hK12
  go_simp
  refine HD.out.mono ?_
  rintro e w2 ⟨⟨rfl, hst2, hg2⟩, hc2⟩
  refine hK12 _ _ ⟨fun _ => hc2.trans hS2, ?_⟩
  refine anyS_one 13 rfl (by kernel_rfl) rfl ?_
  intro K13 hK13
  go_simp
  refine hK13 _ _ ⟨fun _ => hc2.trans hS2, ?_⟩
  refine anyS_done (by kernel_rfl) ?_
  have Hst2 := Lib.hid hst2
  have Hg2 := Lib.hid ((only_below (hb1'.trans (hWb.mono hb1'.size)) (some g)).trans hg2)
  clear hK8 hK11 hK12 hK13 hmi hmv HD hst2 hg2 hc2 hS2 hS1
  go_wp2_with fail
  go_ret
  exact ⟨rfl, Hst2.out, Hg2.out⟩
end Go.Proofs.Ytmlgaedhfannmaa

/- The store: restart and crash. -/
namespace Go.Proofs.Ytmlgaedhfannmaa
set_option linter.unusedVariables false
set_option linter.unusedSimpArgs false
open Go.RowKit
set_option maxHeartbeats 1000000 in
set_option maxRecDepth 100000 in
theorem restart_any {N : Nat → Prop} (g : Nat) (s : List Rw × List UInt8) (t' : List Rw) (used : Nat) (w : World) (hst : StIn N w g s) (hN : ∀ b, N b → b < w.heap.size) (hf : s.2.length ≤ 1200) (hr : recoverR s.2 = (t', used, 0)) (hu : used ≤ s.2.length) :
    Calls Try.prog 84 #[.pointer (some ⟨g, 0, none⟩)] w (ActPost N g (0, (t', s.2.take used)) w) := by
  have hg := hst.lt
  have Hst := Lib.hid hst
  obtain ⟨Af, cf, At, ct, hB, hbf, hbt⟩ := hst
  have c0 : w.cell? ⟨g, 0, none⟩ = some (.slice Af s.2.length cf) := hB.cell 0
  have HR := Lib.hid (recover_lo Af s.2.length cf s.2 w hbf.all hbf.2.1 (by omega))
  unfold RecPostS at HR
  rw [hr] at HR
  have hrt := run_trim (f := s.2) (k := used) hf hu
  have Hrt := Lib.hid hrt
  clear hB hbf hbt hr hrt
  go_enter Try.func84, Try.ntmps84
  go_wp2_with fail
  refine HR.out.mono ?_
  rintro e w1 ⟨A1, c1, rfl, hin1, hb1⟩
  obtain ⟨Af1, cf1, At1, ct1, k1, k2, k3⟩ := Hst.out.below hb1
  have hin1' := hin1.mono (S' := fun b => b ≠ g ∧ ¬ N b) fun b _ hb => ⟨by omega, fun h => by have := hN b h; omega⟩
  have d1 : w1.cell? ⟨g, 1, none⟩ = some (.slice At1 s.1.length ct1) := k1.cell 1
  have f1 := k1.frozen 1
  have hst1 : StIn N (w1.setCell ⟨g, 1, none⟩ (.slice A1 t'.length c1)) g (t', s.2) := ⟨Af1, cf1, A1, c1, k1.set_ 1 _, k2.set_ (by simp) _, hin1'.set_ (by simp) _⟩
  obtain ⟨W1, hW1⟩ : ∃ W1, w1.setCell ⟨g, 1, none⟩ (.slice A1 t'.length c1) = W1 := ⟨_, rfl⟩
  have hg1 : w.grownBy W1 (some g) := by rw [← hW1]; exact only_setCell (only_below hb1 (some g)) (.inl rfl) _
  rw [hW1] at hst1
  have hmi : MsIn W1 (fun b => b < W1.heap.size) [⟨3, [], (used : Int)⟩] ([.int .i64 3, .slice none 0 0, .int .i64 (used : Int)] ++ []) := MsIn.cons (min_bare 3 used (by omega) (by omega)) MsIn.none
  have hmv := mvs_lit W1 _ _ 1 rfl hmi #[.int .i64 3, .slice none 0 0, .int .i64 (used : Int)] rfl
  obtain ⟨W, hW⟩ : ∃ W, W1.alloc (.cells #[.int .i64 3, .slice none 0 0, .int .i64 (used : Int)] 158) = W := ⟨_, rfl⟩
  have hWb : Below W1.heap.size W1 W := by rw [← hW]; exact (Below.refl _ _).alloc (Nat.le_refl _) _
  rw [hW] at hmv
  have HD := Lib.hid (drive_any g (t', s.2) _ _ 1 1 W (hst1.below hWb) (nUp hN (Nat.le_trans hg1.size hWb.size)) hmv (by omega) hf)
  unfold DrvPost at HD
  simp only at HD
  rw [Hrt.out] at HD
  have Hg := Lib.hid (hg1.trans (only_below hWb (some g)))
  clear hin1 hb1 k1 k2 k3 hin1' hst1 hg1 hmi hmv hWb HR
  go_wp2_with fail
  refine HD.out.mono ?_
  rintro e w2 ⟨rfl, hst2, hg2⟩
  have Hst2 := Lib.hid hst2
  have Hg2 := Lib.hid (Hg.out.trans hg2)
  clear hst2 hg2 HD
  go_wp2_with fail
  go_ret
  exact ⟨rfl, Hst2.out, Hg2.out⟩
def crashN (s : List Rw × List UInt8) (cs : List Rw) (n : Int) : Int × (List Rw × List UInt8) :=
  if n < 0 then (2, s) else if planE s.1 cs ≠ 0 then (planE s.1 cs, s) else if 1200 < s.2.length + (pkF cs).length then (10, s) else if n < (pkF cs).length then (0, s) else (0, (sets s.1 cs, s.2 ++ pkF cs))
/-- What is recovered of a file behind a power failure. -/
theorem crash_rec {s : List Rw × List UInt8} (hk : Kp s) {cs : List Rw} (hp : planE s.1 cs = 0) (h12 : ¬ 1200 < s.2.length + (pkF cs).length) (n : Nat) :
    ∃ t' used, recoverR (s.2 ++ (pkF cs).take n) = (t', used, 0) ∧ used ≤ (s.2 ++ (pkF cs).take n).length ∧ (s.2 ++ (pkF cs).take n).length ≤ 1200 ∧
      (t', (s.2 ++ (pkF cs).take n).take used) = if n < (pkF cs).length then s else (sets s.1 cs, s.2 ++ pkF cs) := by
  obtain ⟨css, hk⟩ := hk
  have hpl := plan_ok hk.fit hp
  by_cases hn : n < (pkF cs).length
  · refine ⟨s.1, s.2.length, hk.torn hpl.1 hn (by omega), by simp, by rw [List.length_append, List.length_take]; omega, ?_⟩
    rw [if_pos hn]
    simp
  · rw [List.take_of_length_le (by omega), if_neg hn]
    refine ⟨sets s.1 cs, (s.2 ++ pkF cs).length, recover_whole hk hpl.1 hpl.2.1 (by omega), Nat.le_refl _, by rw [List.length_append]; omega, by rw [List.take_length]⟩
set_option maxHeartbeats 2000000 in
set_option maxRecDepth 100000 in
theorem crash_any {N : Nat → Prop} (g : Nat) (s : List Rw × List UInt8) (A : Option Addr) (n c : Nat) (cs : List Rw) (x : Int) (w : World) (hst : StIn N w g s) (hN : ∀ b, N b → b < w.heap.size) (hkp : Kp s) (hf : s.2.length ≤ 1200) (hl : RIn w w.heap.size A n c cs) (hs : Short cs) (hn : n ≤ 9223372036854775807)
    (hx : -9223372036854775808 ≤ x ∧ x ≤ 9223372036854775807) :
    Calls Try.prog 59 #[.pointer (some ⟨g, 0, none⟩), .slice A n c, .int .i64 x] w (ActPost N g (crashN s cs x) w) := by
  have hft := hkp.fit
  have HP := Lib.hid (plan_any g s A n c cs w hst hft hl hs hn)
  have Hst := Lib.hid hst
  have hg := hst.lt
  clear hl hs
  by_cases hx0 : x < 0
  · have HE := Lib.hid (show crashN s cs x = (2, s) by unfold crashN; rw [if_pos hx0])
    clear HP
    go_enter Try.func59, Try.ntmps59
    go_wp2_with fail
    go_ret
    rw [HE.out]
    exact ⟨rfl, Hst.out, World.grownBy.refl _ _⟩
  · by_cases h0 : planE s.1 cs = 0
    · have hck : crashN s cs x = if 1200 < s.2.length + (pkF cs).length then (10, s) else if x < (pkF cs).length then (0, s) else (0, (sets s.1 cs, s.2 ++ pkF cs)) := by unfold crashN; rw [if_neg hx0, if_neg (by simp [h0])]
      have Hck := Lib.hid hck
      have hrc := run_crash (f := s.2) (b := pkF cs) (n := x) hf (by omega)
      have Hrc := Lib.hid hrc
      have Hcr := Lib.hid (fun h => crash_rec hkp h0 h x.toNat)
      have hpk := pkF_small cs
      unfold PlanPost at HP
      rw [h0] at HP
      clear hck hrc h0 hst
      go_enter Try.func59, Try.ntmps59
      go_wp2_with fail
      refine HP.out.mono ?_
      rintro e w1 ⟨vt, vb, rfl, h1, hb1⟩
      obtain ⟨hot, hob⟩ := h1 (by trivial)
      obtain ⟨Ab, cb, rfl, hbb⟩ := BIn.row (l := pkF cs) hob
      have hst1 := Hst.out.below hb1
      have hmi : MsIn w1 (fun b => b < w1.heap.size) [⟨1, pkF cs, 0⟩, ⟨4, [], x⟩] ([.int .i64 1, .slice Ab (pkF cs).length cb, .int .i64 0] ++ ([.int .i64 4, .slice none 0 0, .int .i64 x] ++ [])) :=
        MsIn.cons (min_write (hbb.mono fun b hb _ => hb) (by omega)) (MsIn.cons (min_bare 4 x (by omega) (by omega)) MsIn.none)
      have hmv := mvs_lit w1 _ _ 2 rfl hmi #[.int .i64 1, .slice Ab (pkF cs).length cb, .int .i64 0, .int .i64 4, .slice none 0 0, .int .i64 x] rfl
      obtain ⟨W, hW⟩ : ∃ W, w1.alloc (.cells #[.int .i64 1, .slice Ab (pkF cs).length cb, .int .i64 0, .int .i64 4, .slice none 0 0, .int .i64 x] 158) = W := ⟨_, rfl⟩
      have hWb : Below w1.heap.size w1 W := by rw [← hW]; exact (Below.refl _ _).alloc (Nat.le_refl _) _
      rw [hW] at hmv
      have HD := Lib.hid (drive_any g s _ _ 2 2 W (hst1.below hWb) (nUp hN (Nat.le_trans hb1.size hWb.size)) hmv (by omega) hf)
      unfold DrvPost at HD
      rw [Hrc.out] at HD
      have Hb1 := Lib.hid (hb1.trans (hWb.mono hb1.size))
      clear h1 hot hob hbb hst1 hmi hmv hb1 hWb HP
      by_cases h12 : 1200 < s.2.length + (pkF cs).length
      · rw [if_pos h12] at HD
        have HE := Lib.hid (show crashN s cs x = (10, s) by rw [Hck.out, if_pos h12])
        clear h12
        generalize (pkF cs).length = pl at *
        go_wp2_with fail
        refine HD.out.mono ?_
        rintro e w2 ⟨rfl, hst2, hg2⟩
        have Hst2 := Lib.hid hst2
        have Hg2 := Lib.hid ((only_below Hb1.out (some g)).trans hg2)
        clear hst2 hg2 HD
        go_wp2_with fail
        go_ret
        rw [HE.out]
        exact ⟨rfl, Hst2.out, Hg2.out⟩
      · rw [if_neg h12] at HD
        obtain ⟨t', used, hr1, hr2, hr3, hr4⟩ := Hcr.out h12
        have HE := Lib.hid (show crashN s cs x = (0, (t', (s.2 ++ (pkF cs).take x.toNat).take used)) by
          rw [Hck.out, if_neg h12, hr4]
          by_cases hlt : x < (pkF cs).length
          · rw [if_pos hlt, if_pos (by omega)]
          · rw [if_neg hlt, if_neg (by omega)])
        have HR := Lib.hid (fun W (h : StIn N W g (s.1, s.2 ++ (pkF cs).take x.toNat)) hn' => restart_any g (s.1, s.2 ++ (pkF cs).take x.toNat) t' used W h hn' hr3 hr1 hr2)
        simp only at HR
        clear h12 hr1 hr2 hr3 hr4
        generalize (pkF cs).length = pl at *
        generalize s.2 ++ (pkF cs).take x.toNat = f2 at *
        go_wp2_with fail
        refine HD.out.mono ?_
        rintro e w2 ⟨rfl, hst2, hg2⟩
        have HR' := Lib.hid (HR.out w2 hst2 (nUp hN (Nat.le_trans Hb1.out.size hg2.size)))
        have Hg2 := Lib.hid ((only_below Hb1.out (some g)).trans hg2)
        unfold ActPost at HR'
        clear hst2 hg2 HD HR
        go_wp2_with fail
        refine HR'.out.mono ?_
        rintro e w3 ⟨rfl, hst3, hg3⟩
        have Hst3 := Lib.hid hst3
        have Hg3 := Lib.hid (Hg2.out.trans hg3)
        clear hst3 hg3 HR'
        go_wp2_with fail
        go_ret
        rw [HE.out]
        exact ⟨rfl, Hst3.out, Hg3.out⟩
    · have HE := Lib.hid (show crashN s cs x = (planE s.1 cs, s) by unfold crashN; rw [if_neg hx0, if_pos h0])
      unfold PlanPost at HP
      generalize planE s.1 cs = y at *
      have hyb : (y == 0) = false := by simpa using h0
      clear h0 hst
      go_enter Try.func59, Try.ntmps59
      go_wp2_with fail
      refine HP.out.mono ?_
      rintro e w1 ⟨vt, vb, rfl, -, hb1⟩
      have Hst1 := Lib.hid (Hst.out.below hb1)
      have Hb1 := Lib.hid hb1
      clear hb1 HP
      go_wp2_with fail
      go_ret
      rw [HE.out]
      exact ⟨rfl, Hst1.out, only_below Hb1.out (some g)⟩
end Go.Proofs.Ytmlgaedhfannmaa
