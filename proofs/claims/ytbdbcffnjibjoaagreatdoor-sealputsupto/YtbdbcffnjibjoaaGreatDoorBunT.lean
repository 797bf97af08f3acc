/- Joined texts: SlPut, SlPutE, SlPutR, SgK, SgL, SlKeep, SlPutG, SlKeepS, SlObj, SlSby. -/
import Derived.Test.YtbdbcffnjibjoaaGreatDoorSlStore
import Derived.Test.YtbdbcffnjibjoaaGreatDoorSlChk
import Derived.Deep.RegionHeld3
import Derived.Deep.DeepFit
import Derived.Deep.DeepCutAuto
import Derived.Test.YtbdbcffnjibjoaaGreatDoorBunF
import Derived.Test.YtbdbcffnjibjoaaGreatDoorPicked
import Derived.Test.YtbdbcffnjibjoaaGreatDoorBunB
/- seal.Put: what the call returns. -/
namespace Go.Proofs.YtbdbcffnjibjoaaGreatDoor
set_option linter.unusedVariables false
set_option linter.unusedSimpArgs false
open Go.RowKit
/-- The signature that Put makes. -/
def putM (v : JV) (x y : Int) : Nat × Nat × Int := makeR x y (sTextL v).length (sTextL v)
/-- The object with it. -/
def putJ (v : JV) (u k : List UInt8) (x y : Int) : JV := putAt [sigK, u, k] v (sigV (putM v x y).1 (putM v x y).2.1)
/-- The error of Put. -/
def putN (v : JV) (u k : List UInt8) (x y : Int) : Int :=
  if tapN v u k ≠ 0 then tapN v u k else if blockedP [sigK, u, k] v = true then 4 else if (putM v x y).2.2 ≠ 0 then (putM v x y).2.2 else checkN (putJ v u k x y)
/-- The value that Put returns. -/
def putV (v : JV) (u k : List UInt8) (x y : Int) : JV := if putN v u k x y = 0 then putJ v u k x y else zeroJ
theorem makeR_lt (x k : Int) (n : Nat) (l : List UInt8) : (makeR x k n l).1 < 65536 ∧ (makeR x k n l).2.1 < 65536 := by
  unfold makeR
  split
  · split
    · exact ⟨by simp, by simp⟩
    · have h1 := Nat.mod_lt (pw 4 k.toNat) (show 0 < 7823 by omega)
      have h2 := Nat.mod_lt (k.toNat + x.toNat * hsh (pw 4 k.toNat % 7823) l) (show 0 < 3911 by omega)
      exact ⟨Nat.lt_trans h1 (by omega), Nat.lt_trans h2 (by omega)⟩
  · exact ⟨by simp, by simp⟩
theorem sigV_ow (r s : Nat) (W : World) : VOw W (fun _ => False) (sigV r s) [.int .i64 5, .int .i64 0, str (enc (sigB r s)), .slice none 0 0, .slice none 0 0] := by
  unfold sigV VOw
  refine ⟨_, _, [], fun _ => False, rfl, by omega, by omega, ?_, by simp, by simp, by simp, World.ownsRow_nil _ _ _ _, World.ownsRow_nil _ _ _ _, by simp [Value.ownBlock], by simp [Value.ownBlock], fun b h => h.elim, by unfold POw; rfl⟩
  rw [enc_length]; simp [sigB]
end Go.Proofs.YtbdbcffnjibjoaaGreatDoor

/- seal.Put where it returns an error ahead of the signature. -/
namespace Go.Proofs.YtbdbcffnjibjoaaGreatDoor
set_option linter.unusedVariables false
set_option linter.unusedSimpArgs false
open Go.RowKit
attribute [local go_sem high] str_mk
/-- Put has returned the error e. -/
def PutErr (n : Int) (w : World) (e : Ending) (w' : World) : Prop :=
  e = .returned (.tuple #[.agg #[.int .i64 0, .int .i64 0, str [], .slice none 0 0, .slice none 0 0], .int .i64 n]) ∧ Below w.heap.size w w'
set_option maxRecDepth 100000 in
set_option maxHeartbeats 1000000 in
theorem sealPut_tap (v : JV) (cs : List Value) (u k : List UInt8) (x y : Int) (w : World) (B : Nat) (hB : B ≤ w.heap.size) (hv : VIn w B v cs) (htab : Tab w.heap.size w) (hgl : Gl w) (hcnt : count v ≤ 1073741824) (hu : u.length ≤ maxLen) (hk : k.length ≤ maxLen) (hT : tapN v u k ≠ 0) :
    Calls Tryz.prog 4 #[.agg cs.toArray, str u, str k, .int .i64 x, .int .i64 y] w (PutErr (tapN v u k) w) := by
  obtain ⟨kd, n, t, Ak, nk, ck, Ap, np, cp, rfl⟩ := hv.form
  have HW := Lib.hid (show Below w.heap.size w ((w.alloc (.cells #[.int .i64 kd, .int .i64 n, str t, .slice Ak nk ck, .slice Ap np cp] 25)).alloc (.cells #[.int .i64 0, .int .i64 0, str [], .slice none 0 0, .slice none 0 0] 25)) from ((Below.refl _ _).alloc (Nat.le_refl _) _).alloc (by simp) _)
  have b2 := Blk.new (w.alloc (.cells #[.int .i64 kd, .int .i64 n, str t, .slice Ak nk ck, .slice Ap np cp] 25)) 25 #[.int .i64 0, .int .i64 0, str [], .slice none 0 0, .slice none 0 0]
  rw [show (w.alloc (.cells #[.int .i64 kd, .int .i64 n, str t, .slice Ak nk ck, .slice Ap np cp] 25)).heap.size = w.heap.size + 1 by simp] at b2
  have H2 := Lib.hid b2
  clear b2
  go_enter Tryz.func4, Tryz.ntmps4
  go_wp2_with fail
  refine (textAndPath_any v _ u k _ B (Nat.le_trans hB HW.out.size) (hv.below (HW.out.mono hB)) (htab.on HW.out).here (hgl.below HW.out) hcnt hu hk).mono ?_
  rintro e w1 ⟨rfl, hb1⟩
  have hw1 : Below w.heap.size w w1 := HW.out.trans (hb1.mono HW.out.size)
  have hr := H2.out.below hb1 (by simp)
  have HV : tapV v u k = .tuple #[str [], .agg #[str [], str [], str []], .int .i64 (tapN v u k)] := by unfold tapV; rw [if_neg hT]
  rw [HV]
  generalize tapN v u k = a at *
  have hab : (a != 0) = true := by simpa using hT
  have hsz : w.heap.size + 1 < w1.heap.size := hr.lt
  have hr' := hr.alloc (.cells #[str [], str [], str []] 32)
  obtain ⟨o0, o1, o2, o3, o4, z0, z1, z2, z3, z4⟩ := sl_box hr
  clear HV hT
  go_wp2_with fail
  refine ret_v2 (by rfl) (by rfl) (by rfl) ((sl_set5 hr _ _ _ _ _).alloc _) (by rfl) ?_
  exact ⟨rfl, (sl_below5 hw1 (by omega) _ _ _ _ _).alloc (by rw [sl_size5]; exact hw1.size) _⟩
set_option maxRecDepth 100000 in
set_option maxHeartbeats 1000000 in
theorem sealPut_blk (v : JV) (cs : List Value) (u k : List UInt8) (x y : Int) (w : World) (B : Nat) (hB : B ≤ w.heap.size) (hv : VIn w B v cs) (htab : Tab w.heap.size w) (hgl : Gl w) (hcnt : count v ≤ 1073741824) (hu : u.length ≤ maxLen) (hk : k.length ≤ maxLen) (hT : tapN v u k = 0) (hbk : blockedP [sigK, u, k] v = true) :
    Calls Tryz.prog 4 #[.agg cs.toArray, str u, str k, .int .i64 x, .int .i64 y] w (PutErr 4 w) := by
  obtain ⟨kd, n, t, Ak, nk, ck, Ap, np, cp, rfl⟩ := hv.form
  have HW := Lib.hid (show Below w.heap.size w ((w.alloc (.cells #[.int .i64 kd, .int .i64 n, str t, .slice Ak nk ck, .slice Ap np cp] 25)).alloc (.cells #[.int .i64 0, .int .i64 0, str [], .slice none 0 0, .slice none 0 0] 25)) from ((Below.refl _ _).alloc (Nat.le_refl _) _).alloc (by simp) _)
  have H1 := Lib.hid ((Blk.new w 25 #[.int .i64 kd, .int .i64 n, str t, .slice Ak nk ck, .slice Ap np cp]).alloc (.cells #[.int .i64 0, .int .i64 0, str [], .slice none 0 0, .slice none 0 0] 25))
  have b2 := Blk.new (w.alloc (.cells #[.int .i64 kd, .int .i64 n, str t, .slice Ak nk ck, .slice Ap np cp] 25)) 25 #[.int .i64 0, .int .i64 0, str [], .slice none 0 0, .slice none 0 0]
  rw [show (w.alloc (.cells #[.int .i64 kd, .int .i64 n, str t, .slice Ak nk ck, .slice Ap np cp] 25)).heap.size = w.heap.size + 1 by simp] at b2
  have H2 := Lib.hid b2
  clear b2
  obtain ⟨hN, hnm⟩ := tapN_zero hT
  have hfv := fine_check (sText_facts hN).1
  go_enter Tryz.func4, Tryz.ntmps4
  go_wp2_with fail
  refine (textAndPath_any v _ u k _ B (Nat.le_trans hB HW.out.size) (hv.below (HW.out.mono hB)) (htab.on HW.out).here (hgl.below HW.out) hcnt hu hk).mono ?_
  rintro e w1 ⟨rfl, hb1⟩
  have hw1 : Below w.heap.size w w1 := HW.out.trans (hb1.mono HW.out.size)
  have hx := H1.out.below hb1 H1.out.lt
  have hr := H2.out.below hb1 H2.out.lt
  have HV : tapV v u k = .tuple #[str (sTextL v), .agg #[str sigK, str u, str k], .int .i64 0] := by unfold tapV; rw [if_pos hT]
  rw [HV]
  have hA : Below w1.heap.size w1 (w1.alloc (.cells #[str sigK, str u, str k] 32)) := (Below.refl _ _).alloc (Nat.le_refl _) _
  have hwA := hw1.trans (hA.mono hw1.size)
  have hrA := hr.alloc (.cells #[str sigK, str u, str k] 32)
  have hsz : w.heap.size + 1 < w1.heap.size := hr.lt
  have hsz0 : w.heap.size < w1.heap.size := by omega
  obtain ⟨v0, v1, v2, v3, v4, -, -, -, -, -⟩ := sl_box hx
  have HI := Lib.hid (isBlocked_any v [.int .i64 kd, .int .i64 n, str t, .slice Ak nk ck, .slice Ap np cp] sigK u k (w1.alloc (.cells #[str sigK, str u, str k] 32)) B (Nat.le_trans hB hwA.size) (hv.below (hwA.mono hB)) hfv)
  clear HV hT hN hnm
  generalize sTextL v = L at *
  go_wp2_with fail
  refine HI.out.mono ?_
  rintro e w2 ⟨rfl, hb2⟩
  rw [hbk]
  have hw2 := hwA.trans (hb2.mono hwA.size)
  have hr2 := hrA.below hb2 hrA.lt
  obtain ⟨o0, o1, o2, o3, o4, z0, z1, z2, z3, z4⟩ := sl_box hr2
  go_wp2_with fail
  refine ret_v2 (by rfl) (by rfl) (by rfl) (sl_set5 hr2 _ _ _ _ _) (by rfl) ?_
  exact ⟨rfl, sl_below5 hw2 (by omega) _ _ _ _ _⟩
end Go.Proofs.YtbdbcffnjibjoaaGreatDoor

/- seal.Put behind its first errors: what the call returns. -/
namespace Go.Proofs.YtbdbcffnjibjoaaGreatDoor
set_option linter.unusedVariables false
set_option linter.unusedSimpArgs false
open Go.RowKit
attribute [local go_sem high] str_mk
/-- What Put returns: the value, whose memory is there, and the error. -/
def PutPost (J : JV) (n : Int) (w : World) (e : Ending) (w' : World) : Prop :=
  ∃ cs, e = .returned (.tuple #[.agg cs.toArray, .int .i64 n]) ∧ VOw w' (newS w w') J cs ∧ Below w.heap.size w w'
theorem zero_vin (W : World) (B : Nat) : VIn W B zeroJ [.int .i64 0, .int .i64 0, str [], .slice none 0 0, .slice none 0 0] := by
  unfold zeroJ VIn
  exact ⟨none, 0, none, 0, [], rfl, by omega, by omega, by simp, by simp, by simp, by simp, by simp, by simp, Holds.empty, Holds.empty, by unfold PIn; rfl⟩
theorem zero_vow (W : World) (F : Nat → Prop) : VOw W F zeroJ [.int .i64 0, .int .i64 0, str [], .slice none 0 0, .slice none 0 0] := by
  unfold zeroJ VOw
  exact ⟨_, _, [], fun _ => False, rfl, by omega, by omega, by simp, by simp, by simp, by simp, World.ownsRow_nil _ _ _ _, World.ownsRow_nil _ _ _ _, by simp [Value.ownBlock], by simp [Value.ownBlock], fun b h => h.elim, by unfold POw; rfl⟩
theorem PutErr.post {n : Int} {w w' : World} {e : Ending} (h : PutErr n w e w') : PutPost zeroJ n w e w' :=
  ⟨_, h.1, zero_vow _ _, h.2⟩
def SealedPost (J : JV) (F1 : Nat → Prop) (W : World) (e : Ending) (w' : World) : Prop :=
  ∃ k n t Ak nk ck Ap np cp F, e = .returned (.agg #[.int .i64 k, .int .i64 n, str t, .slice Ak nk ck, .slice Ap np cp]) ∧ VOw w' F J [.int .i64 k, .int .i64 n, str t, .slice Ak nk ck, .slice Ap np cp] ∧
    (∀ b, F b → (F1 b ∨ W.heap.size ≤ b) ∧ b < w'.heap.size) ∧ Onl F1 W w'
theorem StorePost.said {J : JV} {F1 : Nat → Prop} {W : World} {e : Ending} {w' : World} (h : StorePost J F1 W e w') : SealedPost J F1 W e w' := by
  obtain ⟨cs, F, rfl, hv, hF, ho⟩ := h
  obtain ⟨k, n, t, Ak, nk, ck, Ap, np, cp, rfl⟩ := hv.form
  exact ⟨k, n, t, Ak, nk, ck, Ap, np, cp, F, rfl, hv, hF, ho⟩
def ClonedPost (v : JV) (W : World) (e : Ending) (w' : World) : Prop :=
  ∃ k n t Ak nk ck Ap np cp, e = .returned (.agg #[.int .i64 k, .int .i64 n, str t, .slice Ak nk ck, .slice Ap np cp]) ∧ VOw w' (newS W w') v [.int .i64 k, .int .i64 n, str t, .slice Ak nk ck, .slice Ap np cp] ∧ Below W.heap.size W w'
theorem ClonePost.said {v : JV} {W : World} {e : Ending} {w' : World} (h : ClonePost v W e w') : ClonedPost v W e w' := by
  obtain ⟨cs, rfl, hv, hb⟩ := h
  obtain ⟨k, n, t, Ak, nk, ck, Ap, np, cp, rfl⟩ := hv.form
  exact ⟨k, n, t, Ak, nk, ck, Ap, np, cp, rfl, hv, hb⟩
theorem onl_blk {F : Nat → Prop} {w w' : World} {g : Nat} {t : TypeId} {cs : Array Value} (h : Onl F w w') (hb : Blk w g t cs) (hF : ¬ F g) : Blk w' g t cs :=
  (h.block g hb.lt hF).trans hb
/-- The value stored into a box that is no block of its own. -/
theorem vow_set5 {w : World} {F : Nat → Prop} {v : JV} {cs : List Value} {g : Nat} (h : VOw w F v cs) (hF : ∀ b, F b → b ≠ g) (b0 b1 b2 b3 b4 : Value) :
    VOw (((((w.setCell ⟨g, 0, none⟩ b0).setCell ⟨g, 1, none⟩ b1).setCell ⟨g, 2, none⟩ b2).setCell ⟨g, 3, none⟩ b3).setCell ⟨g, 4, none⟩ b4) F v cs :=
  VOw.kept _ _ _ (fun b hb => sl_block5 (hF b hb) _ _ _ _ _) h
theorem VOw.alloc {w : World} {F : Nat → Prop} {v : JV} {cs : List Value} (h : VOw w F v cs) (hF : ∀ b, F b → b < w.heap.size) (o : Obj) : VOw (w.alloc o) F v cs :=
  VOw.kept _ _ _ (fun b hb => Below.heap_alloc w o b (hF b hb)) h
theorem VOw.below {w w' : World} {F : Nat → Prop} {v : JV} {cs : List Value} (h : VOw w F v cs) (hF : ∀ b, F b → b < w.heap.size) (hb : Below w.heap.size w w') : VOw w' F v cs :=
  VOw.kept _ _ _ (fun b hx => hb.block b (hF b hx)) h
abbrev Z5 : Obj := .cells #[.int .i64 0, .int .i64 0, str [], .slice none 0 0, .slice none 0 0] 25
/-- The signature put into a copy: the three calls of one statement. -/
structure PutW (v : JV) (u k : List UInt8) (r s : Nat) (W5 : World) (gv gp gs : Nat) (c0 c1 c2 c3 c4 : Value) : Prop where
  box : Blk W5 gv 25 #[c0, c1, c2, c3, c4]
  path : Blk W5 gp 32 #[str sigK, str u, str k]
  sign : Blk W5 gs 37 #[.int .i64 r, .int .i64 s]
section
variable {v : JV} {u k : List UInt8} {r s : Nat} {W5 : World} {gv gp gs : Nat} {c0 c1 c2 c3 c4 : Value}
theorem PutW.below (h : PutW v u k r s W5 gv gp gs c0 c1 c2 c3 c4) {W : World} (hb : Below W5.heap.size W5 W) : PutW v u k r s W gv gp gs c0 c1 c2 c3 c4 :=
  ⟨h.box.below hb h.box.lt, h.path.below hb h.path.lt, h.sign.below hb h.sign.lt⟩
theorem PutW.cells (h : PutW v u k r s W5 gv gp gs c0 c1 c2 c3 c4) : W5.cell? ⟨gv, 0, none⟩ = some c0 ∧ W5.cell? ⟨gv, 1, none⟩ = some c1 ∧ W5.cell? ⟨gv, 2, none⟩ = some c2 ∧ W5.cell? ⟨gv, 3, none⟩ = some c3 ∧ W5.cell? ⟨gv, 4, none⟩ = some c4 ∧
    W5.cell? ⟨gs, 0, none⟩ = some (.int .i64 r) ∧ W5.cell? ⟨gs, 1, none⟩ = some (.int .i64 s) :=
  ⟨h.box.cell 0, h.box.cell 1, h.box.cell 2, h.box.cell 3, h.box.cell 4, h.sign.cell 0, h.sign.cell 1⟩
end
/-- store, of what clone has made in W: at every world that has grown out of it. -/
theorem store_at {v : JV} {u k : List UInt8} {r s : Nat} {W5 W w1 : World} {gv gp gs : Nat} {c0 c1 c2 c3 c4 : Value} {cs : List Value} (h5 : PutW v u k r s W5 gv gp gs c0 c1 c2 c3 c4) (hW : Below W5.heap.size W5 W) (hb : Below W.heap.size W w1) (hv : VOw w1 (newS W w1) v cs)
    (hfv : Fine v) (hc : count v ≤ 100) (hu : u.length ≤ 100) (hk : k.length ≤ 100) :
    ∀ Wx, Below w1.heap.size w1 Wx → Calls Tryz.prog 10 #[.agg cs.toArray, .slice (some ⟨gp, 0, none⟩) 3 3, .agg #[.int .i64 5, .int .i64 0, str (enc (sigB r s)), .slice none 0 0, .slice none 0 0]] Wx (SealedPost (putAt [sigK, u, k] v (sigV r s)) (newS W w1) Wx) := by
  intro Wx hx
  have hW1 : Below W5.heap.size W5 w1 := hW.trans (hb.mono hW.size)
  have hWx : Below W5.heap.size W5 Wx := hW1.trans (hx.mono hW1.size)
  have hp := h5.path.below hWx h5.path.lt
  refine (store_ow (sigV r s) 5 0 (enc (sigB r s)) (fun W => sigV_ow r s W) [sigK, u, k] (by simp) ?_ v cs (some ⟨gp, 0, none⟩) 3 (newS W w1) Wx W5.heap.size hfv (VOw.below hv (fun b hb => hb.2) hx) ?_ hWx.size ?_ (by simp) (by omega)).mono fun e w' h => h.said
  · intro y hy
    simp at hy
    rcases hy with rfl | rfl | rfl
    · decide
    · omega
    · omega
  · intro b hb'
    have h1 := hb'.1
    have h2 := hb'.2
    have h3 := hW.size
    have h4 := hx.size
    omega
  · have := path_holds hp 3 (by omega)
    refine ⟨this.1, fun hn => ?_⟩
    obtain ⟨b, off, e, hb1, hc⟩ := this.2 hn
    injection e with e
    injection e with e1 e2
    exact ⟨b, off, by rw [← e1, ← e2], by rw [← e1]; exact h5.path.lt, hc⟩
end Go.Proofs.YtbdbcffnjibjoaaGreatDoor

/- The statements' own helpers: SecretOf, cutBytes, signSure. -/
namespace Go.Proofs.YtbdbcffnjibjoaaGreatDoor
set_option linter.unusedVariables false
set_option linter.unusedSimpArgs false
open Go.RowKit
/-- The secret that a number stands for. -/
def secOf (x : Int) : Nat := 1 + (x % 3910).toNat
theorem secOf_lt (x : Int) : 1 ≤ secOf x ∧ secOf x < 3911 := by
  have h0 := Int.emod_nonneg x (show (3910 : Int) ≠ 0 by decide)
  have h1 := Int.emod_lt_of_pos x (show (0 : Int) < 3910 by decide)
  unfold secOf; omega
theorem sg_info_u8 : (Tryz.prog.info? 5).map (fun i => (i.zero, i.size, i.bytes)) = some (some (.int .u8 0), 1, 1) := by kernel_rfl
theorem sg_info_u8' : ∃ i0, Tryz.prog.info? 5 = some i0 ∧ i0.zero = some (.int .u8 0) ∧ i0.size = 1 ∧ i0.bytes = 1 := by
  have h := sg_info_u8
  cases hi : Tryz.prog.info? 5 with
  | none => rw [hi] at h; cases h
  | some i =>
    rw [hi] at h
    simp only [Option.map_some, Option.some.injEq, Prod.mk.injEq] at h
    exact ⟨i, rfl, h.1, h.2.1, h.2.2⟩
theorem sg_own_cap {w : World} {base e size n c : Nat} {A : Option Addr} {xs : List Value} (h : w.ownsRow base e size (.slice A n c) n xs) : n ≤ c := by
  rcases h.2 with ⟨h1, h2⟩ | ⟨g, cap, cur, hv, _, _, hnc, _⟩
  · injection h1; omega
  · injection hv; omega
/-- A copy of the call's own that holds the bytes x. -/
def CutOf (w w' : World) (x : List UInt8) (v : Value) : Prop :=
  ∃ A c, v = .slice A x.length c ∧ Holds w' w'.heap.size 1 A x.length (x.map bv) ∧ x.length ≤ c ∧ (A = none → c = 0) ∧ w'.ownsRow w.heap.size 5 1 (.slice A x.length c) x.length (x.map bv) ∧ Below w.heap.size w w'
theorem pub_four : isPub 4 = true := by
  have := four_pub (k := 1) (by decide)
  rwa [show pw 4 1 = 4 by rw [pw_eq]] at this
theorem sure_check : checkR 4 0 [] 4 0 = 9 := by
  unfold checkR
  rw [pub_four, show okS 0 = true from rfl, Bool.true_and, Bool.true_and, if_pos rfl, if_neg (by decide), if_neg]
  rw [show (0 : Int).toNat = 0 from rfl, show (4 : Int).toNat = 4 from rfl, pw_zero, show hsh 4 [] = 4 from rfl, pw_eq]
  decide
end Go.Proofs.YtbdbcffnjibjoaaGreatDoor

/- What the calls return for secrets and their keys. -/
namespace Go.Proofs.YtbdbcffnjibjoaaGreatDoor
set_option linter.unusedVariables false
set_option linter.unusedSimpArgs false
open Go.RowKit
theorem hashR_nat {r n : Nat} {l : List UInt8} (hr : r < 7823) (hn : n ≤ 600) : hashR r n l = (hsh r l, 0) := by
  unfold hashR; rw [if_pos ⟨by omega, by omega⟩, if_neg (by omega), Int.toNat_natCast]
theorem isSec_nat {a : Nat} (h1 : 1 ≤ a) (h2 : a < 3911) : isSec (a : Int) = true := by
  unfold isSec; rw [decide_eq_true_eq]; omega
theorem publicR_nat {a : Nat} (h1 : 1 ≤ a) (h2 : a < 3911) : publicR (a : Int) = (pw 4 a % 7823, 0) := by
  unfold publicR; rw [isSec_nat h1 h2, if_pos rfl, Int.toNat_natCast]
theorem makeR_nat {a k n : Nat} {l : List UInt8} (h1 : 1 ≤ a) (h2 : a < 3911) (h3 : 1 ≤ k) (h4 : k < 3911) (hn : n ≤ 600) :
    makeR (a : Int) (k : Int) n l = (pw 4 k % 7823, (k + a * hsh (pw 4 k % 7823) l) % 3911, 0) := by
  unfold makeR; rw [isSec_nat h1 h2, isSec_nat h3 h4, Bool.true_and, if_pos rfl, if_neg (by omega), Int.toNat_natCast, Int.toNat_natCast]
theorem pubk_nat {k : Nat} (h1 : 1 ≤ k) (h2 : k < 3911) : isPub ((pw 4 k % 7823 : Nat) : Int) = true := four_pub (by rw [Nat.mod_eq_of_lt h2]; omega)
theorem okS_nat' {s : Nat} (h : s < 3911) : okS (s : Int) = true := by unfold okS; rw [decide_eq_true_eq]; omega
/-- Check, for a key and an R that are powers of 4. -/
theorem checkR_nat {a k s n : Nat} {l : List UInt8} (h1 : 1 ≤ a) (h2 : a < 3911) (h3 : 1 ≤ k) (h4 : k < 3911) (hs : s < 3911) (hn : n ≤ 600) :
    checkR ((pw 4 a % 7823 : Nat) : Int) n l ((pw 4 k % 7823 : Nat) : Int) (s : Int) = if s = (k + a * hsh (pw 4 k % 7823) l) % 3911 then 0 else 9 := by
  unfold checkR
  rw [pubk_nat h1 h2, pubk_nat h3 h4, okS_nat' hs, Bool.true_and, Bool.true_and, if_pos rfl, if_neg (by omega), Int.toNat_natCast, Int.toNat_natCast, Int.toNat_natCast, four_right]
  by_cases h : s = (k + a * hsh (pw 4 k % 7823) l) % 3911
  · rw [if_pos h, if_pos (by rw [h, four_mod])]
  · rw [if_neg h, if_neg]
    intro he
    have := four_inj he
    rw [Nat.mod_eq_of_lt hs] at this
    exact h this
/-- Secret, for two signatures by one secret with one nonce. -/
theorem secretR_nat {a k n m : Nat} {l1 l2 : List UInt8} (h1 : 1 ≤ a) (h2 : a < 3911) (h3 : 1 ≤ k) (h4 : k < 3911) (hn : n ≤ 600) (hm : m ≤ 600) :
    secretR n m l1 l2 ((pw 4 k % 7823 : Nat) : Int) (((k + a * hsh (pw 4 k % 7823) l1) % 3911 : Nat) : Int) ((pw 4 k % 7823 : Nat) : Int) (((k + a * hsh (pw 4 k % 7823) l2) % 3911 : Nat) : Int) =
      if hsh (pw 4 k % 7823) l1 = hsh (pw 4 k % 7823) l2 then (0, 8) else (a, 0) := by
  unfold secretR
  have hl1 := hsh_lt (pw 4 k % 7823) l1
  have hl2 := hsh_lt (pw 4 k % 7823) l2
  rw [pubk_nat h3 h4, okS_nat' (Nat.mod_lt _ (by decide)), okS_nat' (Nat.mod_lt _ (by decide)), Bool.true_and, Bool.true_and, if_pos rfl, if_neg (by omega), if_pos rfl, Int.toNat_natCast, Int.toNat_natCast, Int.toNat_natCast]
  generalize hsh (pw 4 k % 7823) l1 = x at *
  generalize hsh (pw 4 k % 7823) l2 = y at *
  by_cases hxy : x = y
  · subst hxy
    rw [if_pos rfl, if_pos (by omega)]
  · have h0 : (x + 3911 - y) % 3911 ≠ 0 := by omega
    rw [if_neg hxy, if_neg h0]
    congr 1
    symm
    refine (secret_iff h2 hl1 hl2 (Nat.mod_lt _ (by decide)) (Nat.mod_lt _ (by decide)) h0).1 ?_
    have e1 := Nat.div_add_mod (k + a * x) 3911
    have e2 := Nat.div_add_mod (k + a * y) 3911
    generalize (k + a * x) % 3911 = s at *
    generalize (k + a * y) % 3911 = t at *
    generalize (k + a * x) / 3911 = u at *
    generalize (k + a * y) / 3911 = v at *
    have f1 : ((a * x : Nat) : Int) = (a : Int) * x := Int.natCast_mul _ _
    have f2 : ((a * y : Nat) : Int) = (a : Int) * y := Int.natCast_mul _ _
    rw [← f1, ← f2]
    exact ⟨(u : Int) - v, by omega⟩
/-- A signature in a box of the call's own. -/
def Bx (w : World) (g r s : Nat) : Prop := w.cell? ⟨g, 0, none⟩ = some (.int .i64 r) ∧ w.cell? ⟨g, 1, none⟩ = some (.int .i64 s) ∧ g < w.heap.size
theorem Bx.new (w : World) (r s : Nat) : Bx (w.alloc (.cells #[.int .i64 r, .int .i64 s] 37)) w.heap.size r s := ⟨by simp [go_sem], by simp [go_sem], by simp⟩
theorem Bx.below {w w' : World} {g r s : Nat} (h : Bx w g r s) (hb : Below w.heap.size w w') : Bx w' g r s :=
  ⟨(hb.cell (p := ⟨g, 0, none⟩) h.2.2).trans h.1, (hb.cell (p := ⟨g, 1, none⟩) h.2.2).trans h.2.1, Nat.lt_of_lt_of_le h.2.2 hb.size⟩
theorem Bx.alloc {w : World} {g r s : Nat} (h : Bx w g r s) (o : Obj) : Bx (w.alloc o) g r s := h.below ((Below.refl _ _).alloc (Nat.le_refl _) o)
theorem Bx.drewN {w : World} {g r s : Nat} (h : Bx w g r s) (q : Nat) : Bx (w.drewN q) g r s := h
end Go.Proofs.YtbdbcffnjibjoaaGreatDoor

/- Plain mathematics of the statements about package seal: an object with one member more, what is sealed in it. -/
namespace Go.Proofs.YtbdbcffnjibjoaaGreatDoor
set_option linter.unusedVariables false
set_option linter.unusedSimpArgs false

/-! ### an object with one member more -/
/-- The object with the member k: S, where it belongs. -/
def insO (k : List UInt8) (v S : JV) : JV := .mk 7 0 [] (v.keys.insertIdx (place v.keys k) k) (v.parts.insertIdx (place v.keys k) S)
theorem place_same (k : List UInt8) : ∀ (ks : List (List UInt8)), place (ks.insertIdx (place ks k) k) k = place ks k
  | [] => by simp [place, bytesLess_irrefl]
  | a :: r => by
    rw [place_cons]
    split
    · rename_i h
      rw [List.insertIdx_succ_cons, place_cons, if_pos h, place_same k r]
    · rw [List.insertIdx_zero, place_cons, if_neg (by rw [bytesLess_irrefl]; simp)]
theorem place_other {k k' : List UInt8} (h : Op.bytesLess k' k = false) : ∀ (ks : List (List UInt8)) (i : Nat), place ks k ≤ i → place (ks.insertIdx i k') k = place ks k
  | [], 0, _ => by simp [place, h]
  | [], i + 1, _ => by simp [place]
  | a :: r, 0, hp => by
    rw [place_cons] at hp
    rw [List.insertIdx_zero, place_cons, if_neg (by simp [h])]
    split at hp
    · omega
    · rename_i h2; rw [place_cons, if_neg h2]
  | a :: r, i + 1, hp => by
    rw [place_cons] at hp
    rw [List.insertIdx_succ_cons, place_cons, place_cons]
    split
    · rename_i h2
      rw [if_pos h2] at hp
      rw [place_other h r i (by omega)]
    · rfl
theorem ins_get {α : Type} (x : α) : ∀ (l : List α) (i : Nat), i ≤ l.length → (l.insertIdx i x)[i]? = some x
  | l, 0, _ => by simp
  | [], i + 1, h => by simp at h
  | a :: l, i + 1, h => by
    rw [List.insertIdx_succ_cons]
    simpa using ins_get x l i (by simpa using h)
theorem ins_lt {α : Type} (x : α) : ∀ (l : List α) (i j : Nat), j < i → (l.insertIdx i x)[j]? = l[j]?
  | l, 0, j, h => by omega
  | [], i + 1, j, h => by simp
  | a :: l, i + 1, 0, h => by simp
  | a :: l, i + 1, j + 1, h => by
    rw [List.insertIdx_succ_cons]
    simpa using ins_lt x l i j (by omega)
theorem ins_set {α : Type} (x y : α) : ∀ (l : List α) (i : Nat), i ≤ l.length → (l.insertIdx i x).set i y = l.insertIdx i y
  | l, 0, _ => by simp
  | [], i + 1, h => by simp at h
  | a :: l, i + 1, h => by
    rw [List.insertIdx_succ_cons, List.insertIdx_succ_cons, List.set_cons_succ, ins_set x y l i (by simpa using h)]
theorem ins_mem {α : Type} (x : α) : ∀ (l : List α) (i : Nat), i ≤ l.length → x ∈ l.insertIdx i x := fun l i h => List.mem_of_getElem? (ins_get x l i h)
theorem mem_ins {α : Type} {x y : α} : ∀ (l : List α) (i : Nat), y ∈ l.insertIdx i x → y = x ∨ y ∈ l
  | l, 0, h => by simpa using h
  | [], i + 1, h => by simp at h
  | a :: l, i + 1, h => by
    rw [List.insertIdx_succ_cons] at h
    rcases List.mem_cons.1 h with h | h
    · exact .inr (by simp [h])
    · rcases mem_ins l i h with h | h
      · exact .inl h
      · exact .inr (by simp [h])
theorem mem_ins_of {α : Type} {x y : α} : ∀ (l : List α) (i : Nat), y ∈ l → y ∈ l.insertIdx i x
  | l, 0, h => by simp [h]
  | [], i + 1, h => by simp at h
  | a :: l, i + 1, h => by
    rw [List.insertIdx_succ_cons]
    rcases List.mem_cons.1 h with rfl | h
    · simp
    · exact List.mem_cons_of_mem _ (mem_ins_of l i h)
theorem ins_len {α : Type} (x : α) (l : List α) (i : Nat) (h : i ≤ l.length) : (l.insertIdx i x).length = l.length + 1 := by
  rw [List.length_insertIdx, if_pos h]
theorem ins_wo {k : List UInt8} (h : omitK k = true) (S : JV) : ∀ (ks : List (List UInt8)) (ps : List JV) (i : Nat), ks.length = ps.length → i ≤ ks.length → wo (ks.insertIdx i k) (ps.insertIdx i S) = wo ks ps
  | ks, ps, 0, _, _ => by rw [List.insertIdx_zero, List.insertIdx_zero, wo_cons_yes h]
  | [], ps, i + 1, _, hi => by simp at hi
  | a :: ks, [], i + 1, hl, _ => by simp at hl
  | a :: ks, p :: ps, i + 1, hl, hi => by
    rw [List.insertIdx_succ_cons, List.insertIdx_succ_cons]
    have ih := ins_wo h S ks ps i (by simpa using hl) (by simpa using hi)
    cases ha : omitK a
    · rw [wo_cons_no ha, wo_cons_no ha, ih]
    · rw [wo_cons_yes ha, wo_cons_yes ha, ih]
theorem wo_all : ∀ (ks : List (List UInt8)) (ps : List JV), ks.length = ps.length → (∀ k ∈ ks, omitK k = false) → wo ks ps = (ks, ps)
  | [], [], _, _ => rfl
  | [], _ :: _, h, _ => by simp at h
  | _ :: _, [], h, _ => by simp at h
  | k :: ks, p :: ps, hl, h => by
    rw [wo_cons_no (h k (by simp)), wo_all ks ps (by simpa using hl) fun x hx => h x (by simp [hx])]
theorem ins_counts (S : JV) : ∀ (ps : List JV) (i : Nat), counts (ps.insertIdx i S) ≤ counts ps + count S
  | ps, 0 => by simp [counts]; omega
  | [], i + 1 => by simp [counts]
  | p :: ps, i + 1 => by
    have := ins_counts S ps i
    rw [List.insertIdx_succ_cons]; simp only [counts]; omega
theorem faults_mem {d : Nat} : ∀ {ps : List JV} {p : JV}, faults d ps = 0 → p ∈ ps → fault d p = 0
  | [], p, _, h => by simp at h
  | q :: r, p, hf, h => by
    obtain ⟨h1, h2⟩ := faults_cons hf
    rcases List.mem_cons.1 h with rfl | h
    · exact h1
    · exact faults_mem h2 h
theorem ins_faults {d : Nat} {S : JV} (hS : fault d S = 0) {ps : List JV} (h : faults d ps = 0) (i : Nat) : faults d (ps.insertIdx i S) = 0 :=
  faults_of fun p hp => by
    rcases mem_ins ps i hp with rfl | hp
    · exact hS
    · exact faults_mem h hp
theorem ins_jobj (k : List UInt8) (S : JV) : ∀ (f : Bool) (ks : List (List UInt8)) (ps : List JV) (i : Nat), ks.length = ps.length → i ≤ ks.length →
    (jobj f (ks.insertIdx i k) (ps.insertIdx i S)).length ≤ (jobj f ks ps).length + (quo k).length + 2 + (jtext S).length
  | f, ks, ps, 0, _, _ => by
    have h1 := jobj_first ks ps
    rw [List.insertIdx_zero, List.insertIdx_zero]
    cases f <;> simp [jobj, sep] <;> omega
  | f, [], ps, i + 1, _, hi => by simp at hi
  | f, a :: ks, [], i + 1, hl, _ => by simp at hl
  | f, a :: ks, p :: ps, i + 1, hl, hi => by
    have := ins_jobj k S false ks ps i (by simpa using hl) (by simpa using hi)
    rw [List.insertIdx_succ_cons, List.insertIdx_succ_cons]
    simp only [jobj, List.length_append, List.length_cons]; omega

/-- An object as the statements make them: right, its keys in order. -/
structure Plain (v : JV) : Prop where
  form : v = .mk 7 0 [] v.keys v.parts
  len : v.keys.length = v.parts.length
  incr : incr v.keys = true
  ok : faults 1 v.parts = 0
theorem Plain.insO {k : List UInt8} {v S : JV} (h : Plain v) (hk : k ∉ v.keys) (hS : fault 1 S = 0) : Plain (insO k v S) :=
  ⟨rfl, by
    show (v.keys.insertIdx _ k).length = (v.parts.insertIdx _ S).length
    rw [ins_len _ _ _ (place_le _ _), ins_len _ _ _ (by rw [← h.len]; exact place_le _ _), h.len], incr_insert h.incr hk, ins_faults hS h.ok _⟩
theorem Plain.check {v : JV} (h : Plain v) (hc : counts v.parts ≤ 99) (ht : (jtext v).length ≤ 600) : checkN v = 0 := by
  refine check_of ?_ ?_ ht
  · rw [h.form]; exact fault_seven (by omega) h.len h.incr h.ok
  · rw [h.form]; simp only [count]; omega
theorem Plain.kind {v : JV} (h : Plain v) : v.kind = 7 := by rw [h.form]; rfl
theorem insO_text {k : List UInt8} {v S : JV} (h : Plain v) : (jtext (insO k v S)).length ≤ (jtext v).length + (quo k).length + 2 + (jtext S).length := by
  have := ins_jobj k S true v.keys v.parts (place v.keys k) h.len (place_le _ _)
  have h1 : jtext v = 123 :: (jobj true v.keys v.parts ++ [125]) := by
    have := jtext_seven v.keys v.parts 0 []
    rwa [← h.form] at this
  rw [h1, insO, jtext_seven]
  simp only [List.length_cons, List.length_append, List.length_nil]
  omega
theorem insO_counts (k : List UInt8) (v S : JV) : counts (insO k v S).parts ≤ counts v.parts + count S := ins_counts S _ _
theorem insO_strip {k : List UInt8} {v S : JV} (h : Plain v) (hk : omitK k = true) : strip (insO k v S) = strip v := by
  unfold strip
  rw [show (insO k v S).keys = v.keys.insertIdx (place v.keys k) k from rfl, show (insO k v S).parts = v.parts.insertIdx (place v.keys k) S from rfl, ins_wo hk S _ _ _ h.len (place_le _ _)]
theorem Plain.strip {v : JV} (h : Plain v) (hk : ∀ k ∈ v.keys, omitK k = false) : strip v = v := by
  unfold Go.Proofs.YtbdbcffnjibjoaaGreatDoor.strip
  rw [wo_all _ _ h.len hk]
  exact h.form.symm
theorem insO_get (k : List UInt8) (r : List (List UInt8)) {v S : JV} (h : Plain v) : getAt (k :: r) (insO k v S) = getAt r S := by
  unfold insO
  rw [getAt, if_pos (ins_mem _ _ _ (place_le _ _)), place_same, ins_get _ _ _ (by rw [← h.len]; exact place_le _ _)]
theorem insO_put (k : List UInt8) (r : List (List UInt8)) {v S e : JV} (h : Plain v) : putAt (k :: r) (insO k v S) e = insO k v (putAt r S e) := by
  unfold insO
  have hp : place v.keys k ≤ v.parts.length := by rw [← h.len]; exact place_le _ _
  rw [putAt, if_pos (ins_mem _ _ _ (place_le _ _)), place_same, ins_set _ _ _ _ hp]
  have : (v.parts.insertIdx (place v.keys k) S).getD (place v.keys k) (.mk 7 0 [] [] []) = S := by
    rw [List.getD_eq_getElem?_getD, ins_get _ _ _ hp]; rfl
  rw [this]
theorem Plain.put {v e : JV} (h : Plain v) (k : List UInt8) (r : List (List UInt8)) (hk : k ∉ v.keys) : putAt (k :: r) v e = Go.Proofs.YtbdbcffnjibjoaaGreatDoor.insO k v (putAt r (.mk 7 0 [] [] []) e) := by
  rw [h.form, putAt, if_neg hk]; rfl
theorem Plain.get {v : JV} (h : Plain v) (k : List UInt8) (r : List (List UInt8)) (hk : k ∉ v.keys) : getAt (k :: r) v = none := by
  rw [h.form, getAt, if_neg hk]
/-- A member further back does not count. -/
theorem insO_back {k k' : List UInt8} {v S : JV} (r : List (List UInt8)) (h : Plain v) (hm : k ∈ v.keys) (hk : Op.bytesLess k k' = true) : getAt (k :: r) (insO k' v S) = getAt (k :: r) v := by
  have h1 : Op.bytesLess k' k = false := by
    cases hx : Op.bytesLess k' k with
    | false => rfl
    | true => have := bytesLess_trans _ _ _ hk hx; rw [bytesLess_irrefl] at this; cases this
  have h2 := (place_mem h.incr).1 hm
  have h3 : place v.keys k < place v.keys k' := by
    refine Classical.byContradiction fun hc => ?_
    have := place_ge h.incr (by omega : place v.keys k' ≤ place v.keys k) h2
    rw [hk] at this; cases this
  rw [insO, getAt, if_pos (mem_ins_of _ _ hm), place_other h1 _ _ (by omega), ins_lt _ _ _ _ h3]
  conv => rhs; rw [h.form, getAt, if_pos hm]
end Go.Proofs.YtbdbcffnjibjoaaGreatDoor

/- seal.Put: what the call returns. -/
namespace Go.Proofs.YtbdbcffnjibjoaaGreatDoor
set_option linter.unusedVariables false
set_option linter.unusedSimpArgs false
open Go.RowKit
attribute [local go_sem high] str_mk
theorem set_counts (q : JV) : ∀ (ps : List JV) (i : Nat) (h : i < ps.length), counts (ps.set i q) + count ps[i] = counts ps + count q
  | [], i, h => by simp at h
  | p :: ps, 0, h => by simp [counts]; omega
  | p :: ps, i + 1, h => by
    have := set_counts q ps i (by simpa using h)
    simp only [List.set_cons_succ, counts, List.getElem_cons_succ]; omega
theorem put_count (e : JV) : ∀ (ks : List (List UInt8)) (v : JV), count (putAt ks v e) ≤ count v + ks.length + count e
  | [], v => by simp [putAt]
  | k :: r, .mk kd n t ks ps => by
    rw [putAt]
    by_cases hm : k ∈ ks
    · rw [if_pos hm]
      by_cases hi : place ks k < ps.length
      · have h1 := set_counts (putAt r (ps.getD (place ks k) (.mk 7 0 [] [] [])) e) ps _ hi
        have h2 := put_count e r (ps.getD (place ks k) (.mk 7 0 [] [] []))
        rw [List.getD_eq_getElem?_getD, List.getElem?_eq_getElem hi, Option.getD_some] at h1 h2
        rw [List.getD_eq_getElem?_getD, List.getElem?_eq_getElem hi, Option.getD_some]
        simp only [count, List.length_cons]; omega
      · rw [List.set_eq_of_length_le (by omega)]
        simp only [count, List.length_cons]; omega
    · rw [if_neg hm]
      have h1 := ins_counts (putAt r (.mk 7 0 [] [] []) e) ps (place ks k)
      have h2 := put_count e r (.mk 7 0 [] [] [])
      simp only [count, counts, List.length_cons] at *; omega
theorem makeV_eq (m : Nat × Nat × Int) : makeV m = .tuple #[.agg #[.int .i64 m.1, .int .i64 m.2.1], .int .i64 m.2.2] := rfl
set_option maxRecDepth 100000 in
set_option maxHeartbeats 8000000 in
theorem sealPut_go (v : JV) (cs : List Value) (u k : List UInt8) (x y : Int) (w : World) (B : Nat) (hB : B ≤ w.heap.size) (hv : VIn w B v cs) (htab : Tab w.heap.size w) (hgl : Gl w) (hcnt : count v ≤ 1073741824) (hu : u.length ≤ maxLen) (hk : k.length ≤ maxLen) (hT : tapN v u k = 0) (hbk : blockedP [sigK, u, k] v = false) :
    Calls Tryz.prog 4 #[.agg cs.toArray, str u, str k, .int .i64 x, .int .i64 y] w (PutPost (putV v u k x y) (putN v u k x y) w) := by
  obtain ⟨kd, n, t, Ak, nk, ck, Ap, np, cp, rfl⟩ := hv.form
  have HW := Lib.hid (show Below w.heap.size w ((w.alloc (.cells #[.int .i64 kd, .int .i64 n, str t, .slice Ak nk ck, .slice Ap np cp] 25)).alloc (.cells #[.int .i64 0, .int .i64 0, str [], .slice none 0 0, .slice none 0 0] 25)) from ((Below.refl _ _).alloc (Nat.le_refl _) _).alloc (by simp) _)
  have H1 := Lib.hid ((Blk.new w 25 #[.int .i64 kd, .int .i64 n, str t, .slice Ak nk ck, .slice Ap np cp]).alloc (.cells #[.int .i64 0, .int .i64 0, str [], .slice none 0 0, .slice none 0 0] 25))
  have b2 := Blk.new (w.alloc (.cells #[.int .i64 kd, .int .i64 n, str t, .slice Ak nk ck, .slice Ap np cp] 25)) 25 #[.int .i64 0, .int .i64 0, str [], .slice none 0 0, .slice none 0 0]
  rw [show (w.alloc (.cells #[.int .i64 kd, .int .i64 n, str t, .slice Ak nk ck, .slice Ap np cp] 25)).heap.size = w.heap.size + 1 by simp] at b2
  have H2 := Lib.hid b2
  clear b2
  obtain ⟨hN, hnm⟩ := tapN_zero hT
  have hfv := fine_check (sText_facts hN).1
  have Hfv := Lib.hid hfv
  have Hcv := Lib.hid (check_facts (sText_facts hN).1).2.1
  have Hnm := Lib.hid (nameOk_len hnm)
  have HM := Lib.hid (show putM v x y = makeR x y (sTextL v).length (sTextL v) from rfl)
  have HNN := Lib.hid (show putN v u k x y = if (putM v x y).2.2 ≠ 0 then (putM v x y).2.2 else checkN (putJ v u k x y) by unfold putN; rw [if_neg (by simpa using hT), if_neg (by simp [hbk])])
  have HVV := Lib.hid (show putV v u k x y = if putN v u k x y = 0 then putJ v u k x y else zeroJ from rfl)
  have HJJ := Lib.hid (show putJ v u k x y = putAt [sigK, u, k] v (sigV (putM v x y).1 (putM v x y).2.1) from rfl)
  have Hml := Lib.hid (makeR_lt x y (sTextL v).length (sTextL v))
  have Htab := Lib.hid htab
  go_enter Tryz.func4, Tryz.ntmps4
  go_wp2_with fail
  refine (textAndPath_any v _ u k _ B (Nat.le_trans hB HW.out.size) (hv.below (HW.out.mono hB)) (htab.on HW.out).here (hgl.below HW.out) hcnt hu hk).mono ?_
  rintro e w1 ⟨rfl, hb1⟩
  have hw1 : Below w.heap.size w w1 := HW.out.trans (hb1.mono HW.out.size)
  have hx := H1.out.below hb1 H1.out.lt
  have hr := H2.out.below hb1 H2.out.lt
  have HV : tapV v u k = .tuple #[str (sTextL v), .agg #[str sigK, str u, str k], .int .i64 0] := by unfold tapV; rw [if_pos hT]
  rw [HV]
  have hA : Below w1.heap.size w1 (w1.alloc (.cells #[str sigK, str u, str k] 32)) := (Below.refl _ _).alloc (Nat.le_refl _) _
  have hpA := Blk.new w1 32 #[str sigK, str u, str k]
  have hwA := hw1.trans (hA.mono hw1.size)
  have hrA := hr.alloc (.cells #[str sigK, str u, str k] 32)
  have hxA := hx.alloc (.cells #[str sigK, str u, str k] 32)
  have hsz : w.heap.size + 1 < w1.heap.size := hr.lt
  have hsz0 : w.heap.size < w1.heap.size := by omega
  obtain ⟨v0, v1, v2, v3, v4, -, -, -, -, -⟩ := sl_box hx
  have HI := Lib.hid (isBlocked_any v [.int .i64 kd, .int .i64 n, str t, .slice Ak nk ck, .slice Ap np cp] sigK u k (w1.alloc (.cells #[str sigK, str u, str k] 32)) B (Nat.le_trans hB hwA.size) (hv.below (hwA.mono hB)) hfv)
  have Hvv := Lib.hid (show ∀ W, Below w.heap.size w W → VIn W B v [.int .i64 kd, .int .i64 n, str t, .slice Ak nk ck, .slice Ap np cp] from fun W hW => hv.below (hW.mono hB))
  have Hbk := Lib.hid hbk
  clear HV hT hN hnm hfv hcnt hu hk hgl htab hv hbk
  generalize sTextL v = L at *
  go_wp2_with fail
  refine HI.out.mono ?_
  rintro e w2 ⟨rfl, hb2⟩
  rw [Hbk.out]
  have hw2 := hwA.trans (hb2.mono hwA.size)
  have hr2 := hrA.below hb2 hrA.lt
  have hx2 := hxA.below hb2 hxA.lt
  have hp2 := hpA.below hb2 hpA.lt
  obtain ⟨cc, w3, hcv, hhv, hb3⟩ := conv_bytes w2 L w2.heap.size rfl
  have hw3 := hw2.trans (hb3.mono hw2.size)
  have hr3 := hr2.below hb3 hr2.lt
  have hx3 := hx2.below hb3 hx2.lt
  have hp3 := hp2.below hb3 hp2.lt
  have Hmk := Lib.hid (make_any x y (some ⟨w2.heap.size, 0, none⟩) L.length cc L w3 hhv)
  have hsz2 : w.heap.size + 1 < w2.heap.size := hr2.lt
  clear HI hb1 hb2 hb3 hA hwA hrA hxA hpA hr hx hr2 hx2 hp2 hhv v0 v1 v2 v3 v4 HW H1 H2
  go_wp2_with fail
  go_fit Hmk.out
  rintro e w4 ⟨rfl, hb4⟩
  have hw4 := hw3.trans (hb4.mono hw3.size)
  have hr4 := hr3.below hb4 hr3.lt
  have hx4 := hx3.below hb4 hx3.lt
  have hp4 := hp3.below hb4 hp3.lt
  rw [makeV_eq, ← HM.out]
  rw [← HM.out] at Hml
  clear Hmk HM hb4 hr3 hx3 hp3 hw1 hw2 hw3 hcv hsz hsz0
  generalize putM v x y = mm at *
  obtain ⟨r, s, m⟩ := mm
  dsimp only at *
  generalize w1.heap.size = gp at *
  have hA : Below w4.heap.size w4 (w4.alloc (.cells #[.int .i64 r, .int .i64 s] 37)) := (Below.refl _ _).alloc (Nat.le_refl _) _
  have hsg := Blk.new w4 37 #[.int .i64 r, .int .i64 s]
  have hwA := hw4.trans (hA.mono hw4.size)
  have hrA := hr4.alloc (.cells #[.int .i64 r, .int .i64 s] 37)
  have hxA := hx4.alloc (.cells #[.int .i64 r, .int .i64 s] 37)
  have hpA := hp4.alloc (.cells #[.int .i64 r, .int .i64 s] 37)
  by_cases hm : m = 0
  · subst hm
    have HN1 := Lib.hid (show putN v u k x y = checkN (putJ v u k x y) by rw [HNN.out, if_neg (by simp)])
    have h5 : PutW v u k r s (w4.alloc (.cells #[.int .i64 r, .int .i64 s] 37)) w.heap.size gp w4.heap.size (.int .i64 kd) (.int .i64 n) (str t) (.slice Ak nk ck) (.slice Ap np cp) := ⟨hxA, hpA, hsg⟩
    have Hs4 := Lib.hid (show w4.heap.size < (w4.alloc (.cells #[.int .i64 r, .int .i64 s] 37)).heap.size by simp)
    clear HNN hA hsg hxA hpA hr4 hx4 hp4 hw4
    go_wp2_with fail
    generalize hWe : w4.alloc (.cells #[.int .i64 r, .int .i64 s] 37) = W5 at *
    have hsg5 : w4.heap.size < W5.heap.size := Hs4.out
    clear hWe Hs4
    generalize w4.heap.size = gs at *
    have hgv : w.heap.size < W5.heap.size := h5.box.lt
    have hgp : gp < W5.heap.size := h5.path.lt
    obtain ⟨v0, v1, v2, v3, v4, q0, q1⟩ := h5.cells
    have hsl := path_slice_all gp
    have HzA := Lib.hid (show Below W5.heap.size W5 W5.drew from (Below.refl _ _).drew)
    have HzB := Lib.hid (show Below W5.heap.size W5 (W5.alloc (.cells #[.int .i64 0, .int .i64 0, str [], .slice none 0 0, .slice none 0 0] 25)).drew from ((Below.refl _ _).alloc (Nat.le_refl _) _).drew)
    have HnB := Lib.hid (show Blk (W5.alloc (.cells #[.int .i64 0, .int .i64 0, str [], .slice none 0 0, .slice none 0 0] 25)).drew W5.heap.size 25 #[.int .i64 0, .int .i64 0, str [], .slice none 0 0, .slice none 0 0] from Blk.new W5 _ _)
    have Hcl : ∀ W, Below W5.heap.size W5 W → Calls Tryz.prog 11 #[.agg #[.int .i64 kd, .int .i64 n, str t, .slice Ak nk ck, .slice Ap np cp]] W (ClonedPost v W) := fun W hW => by
      have h1 := hwA.trans (hW.mono hwA.size)
      exact (clone_ow 100 v _ W B Hcv.out (Nat.le_trans hB h1.size) (Hvv.out W h1)).mono fun e w' h => h.said
    have HCA := Lib.hid (Hcl _ HzA.out)
    have HCB := Lib.hid (Hcl _ HzB.out)
    have HE := Lib.hid (fun W => encode_sig r s Hml.out.1 Hml.out.2 W)
    have HST := Lib.hid (fun (W w1 : World) (cs : List Value) (hW : Below W5.heap.size W5 W) (hb : Below W.heap.size W w1) (hv : VOw w1 (newS W w1) v cs) => store_at h5 hW hb hv Hfv.out Hcv.out Hnm.out.1 Hnm.out.2)
    have H5 := Lib.hid h5
    have HwA := Lib.hid hwA
    have HrA := Lib.hid hrA
    clear Hcl h5 hwA hrA Hvv
    have HJ1 := Lib.hid (show putAt [sigK, u, k] v (sigV r s) = putJ v u k x y from HJJ.out.symm)
    go_cut [16] (fun s16 wx => ∃ (g : Nat) (k2 n2 : Int) (t2 : List UInt8) (Ak2 : Option Addr) (nk2 ck2 : Nat) (Ap2 : Option Addr) (np2 cp2 : Nat) (F2 : Nat → Prop), s16 = .pointer (some ⟨g, 0, none⟩) ∧
      Blk wx g 25 #[.int .i64 k2, .int .i64 n2, str t2, .slice Ak2 nk2 ck2, .slice Ap2 np2 cp2] ∧ VOw wx F2 (putAt [sigK, u, k] v (sigV r s)) [.int .i64 k2, .int .i64 n2, str t2, .slice Ak2 nk2 ck2, .slice Ap2 np2 cp2] ∧ (∀ b, F2 b → W5.heap.size ≤ b ∧ b < wx.heap.size) ∧ Below W5.heap.size W5 wx)
    case first =>
      have hne1 : w.heap.size ≠ W5.heap.size := by omega
      have hne2 : gs ≠ W5.heap.size := by omega
      obtain ⟨d0, d1, d2, d3, d4, d5, d6⟩ := (H5.out.below HzA.out).cells
      obtain ⟨e0, e1, e2, e3, e4, e5, e6⟩ := (H5.out.below HzB.out).cells
      go_region_held3 (fun w' => w'.cell? ⟨w.heap.size, 0, none⟩ = some (.int .i64 kd) ∧ w'.cell? ⟨w.heap.size, 1, none⟩ = some (.int .i64 n) ∧ w'.cell? ⟨w.heap.size, 2, none⟩ = some (str t) ∧ w'.cell? ⟨w.heap.size, 3, none⟩ = some (.slice Ak nk ck) ∧ w'.cell? ⟨w.heap.size, 4, none⟩ = some (.slice Ap np cp) ∧ w'.cell? ⟨gs, 0, none⟩ = some (.int .i64 r) ∧ w'.cell? ⟨gs, 1, none⟩ = some (.int .i64 s))
        (first | with_reducible exact ⟨d0, d1, d2, d3, d4, d5, d6⟩ | with_reducible exact ⟨e0, e1, e2, e3, e4, e5, e6⟩ | with_reducible exact ⟨g0, g1, g2, g3, g4, g5, g6⟩ | with_reducible exact ⟨h0, h1, h2, h3, h4, h5, h6⟩ | with_reducible exact ⟨i0, i1, i2, i3, i4, i5, i6⟩ | with_reducible exact ⟨(sl_cell5 hne1 _ _ _ _ _).trans i0, (sl_cell5 hne1 _ _ _ _ _).trans i1, (sl_cell5 hne1 _ _ _ _ _).trans i2, (sl_cell5 hne1 _ _ _ _ _).trans i3, (sl_cell5 hne1 _ _ _ _ _).trans i4, (sl_cell5 hne2 _ _ _ _ _).trans i5, (sl_cell5 hne2 _ _ _ _ _).trans i6⟩ | with_reducible exact ⟨(sl_cell5 (Nat.ne_of_lt ga1) _ _ _ _ _).trans i0, (sl_cell5 (Nat.ne_of_lt ga1) _ _ _ _ _).trans i1, (sl_cell5 (Nat.ne_of_lt ga1) _ _ _ _ _).trans i2, (sl_cell5 (Nat.ne_of_lt ga1) _ _ _ _ _).trans i3, (sl_cell5 (Nat.ne_of_lt ga1) _ _ _ _ _).trans i4, (sl_cell5 (Nat.ne_of_lt ga2) _ _ _ _ _).trans i5, (sl_cell5 (Nat.ne_of_lt ga2) _ _ _ _ _).trans i6⟩ | with_reducible exact ⟨(sl_cell5 (Nat.ne_of_lt ha1) _ _ _ _ _).trans i0, (sl_cell5 (Nat.ne_of_lt ha1) _ _ _ _ _).trans i1, (sl_cell5 (Nat.ne_of_lt ha1) _ _ _ _ _).trans i2, (sl_cell5 (Nat.ne_of_lt ha1) _ _ _ _ _).trans i3, (sl_cell5 (Nat.ne_of_lt ha1) _ _ _ _ _).trans i4, (sl_cell5 (Nat.ne_of_lt ha2) _ _ _ _ _).trans i5, (sl_cell5 (Nat.ne_of_lt ha2) _ _ _ _ _).trans i6⟩ | go_keep)
        (first
          | (go_at_call 11; go_fit (HCA.out); rintro e w1 ⟨ka, na, ta, Aka, nka, cka, Apa, npa, cpa, rfl, hva, hba⟩; have HS := Lib.hid (HST.out _ _ _ HzA.out hba hva); have Hb1 := Lib.hid (HzA.out.trans (hba.mono HzA.out.size)); have Hnw := Lib.hid (fun (b : Nat) (h : newS W5.drew w1 b) => show W5.heap.size ≤ b from h.1); obtain ⟨g0, g1, g2, g3, g4, g5, g6⟩ := (H5.out.below Hb1.out).cells; have ga1 : w.heap.size < w1.heap.size := Nat.lt_of_lt_of_le hgv Hb1.out.size; have ga2 : gs < w1.heap.size := Nat.lt_of_lt_of_le hsg5 Hb1.out.size; have ga3 : gp < w1.heap.size := Nat.lt_of_lt_of_le hgp Hb1.out.size; clear hva hba)
          | (go_at_call 11; go_fit (HCB.out); rintro e w1 ⟨ka, na, ta, Aka, nka, cka, Apa, npa, cpa, rfl, hva, hba⟩; have HS := Lib.hid (HST.out _ _ _ HzB.out hba hva); have Hb1 := Lib.hid (HzB.out.trans (hba.mono HzB.out.size)); have Hnw := Lib.hid (fun (b : Nat) (h : newS (W5.alloc (.cells #[.int .i64 0, .int .i64 0, str [], .slice none 0 0, .slice none 0 0] 25)).drew w1 b) => show W5.heap.size ≤ b from Nat.le_trans HzB.out.size h.1); have HxB1 := Lib.hid (HnB.out.below hba HnB.out.lt); have HxBn := Lib.hid (fun (h : newS (W5.alloc (.cells #[.int .i64 0, .int .i64 0, str [], .slice none 0 0, .slice none 0 0] 25)).drew w1 W5.heap.size) => show False from absurd (Nat.lt_of_lt_of_le HnB.out.lt h.1) (Nat.lt_irrefl _)); obtain ⟨g0, g1, g2, g3, g4, g5, g6⟩ := (H5.out.below Hb1.out).cells; have ga1 : w.heap.size < w1.heap.size := Nat.lt_of_lt_of_le hgv Hb1.out.size; have ga2 : gs < w1.heap.size := Nat.lt_of_lt_of_le hsg5 Hb1.out.size; have ga3 : gp < w1.heap.size := Nat.lt_of_lt_of_le hgp Hb1.out.size; clear hva hba)
          | (go_at_call 12; go_fit (HE.out w1); rintro e w2 ⟨rfl, hb2⟩; have Hb2 := Lib.hid hb2; have HxB2 := Lib.hid (HxB1.out.below hb2 HxB1.out.lt); have Hb3 := Lib.hid (Hb1.out.trans (Hb2.out.mono Hb1.out.size)); obtain ⟨h0, h1, h2, h3, h4, h5, h6⟩ := (H5.out.below Hb3.out).cells; have ha1 : w.heap.size < w2.heap.size := Nat.lt_of_lt_of_le hgv Hb3.out.size; have ha2 : gs < w2.heap.size := Nat.lt_of_lt_of_le hsg5 Hb3.out.size; have ha3 : gp < w2.heap.size := Nat.lt_of_lt_of_le hgp Hb3.out.size; clear hb2)
          | (go_at_call 12; go_fit (HE.out (w1.alloc (.cells #[.int .i64 0, .int .i64 0, str [], .slice none 0 0, .slice none 0 0] 25))); rintro e w2 ⟨rfl, hb2⟩; have Hb2 := Lib.hid (((Below.refl w1.heap.size w1).alloc (Nat.le_refl _) (.cells #[.int .i64 0, .int .i64 0, str [], .slice none 0 0, .slice none 0 0] 25)).trans (hb2.mono (by simp))); have HxC2 := Lib.hid ((Blk.new w1 25 #[.int .i64 0, .int .i64 0, str [], .slice none 0 0, .slice none 0 0]).below hb2 (by simp)); have Hb3 := Lib.hid (Hb1.out.trans (Hb2.out.mono Hb1.out.size)); obtain ⟨h0, h1, h2, h3, h4, h5, h6⟩ := (H5.out.below Hb3.out).cells; have ha1 : w.heap.size < w2.heap.size := Nat.lt_of_lt_of_le hgv Hb3.out.size; have ha2 : gs < w2.heap.size := Nat.lt_of_lt_of_le hsg5 Hb3.out.size; have ha3 : gp < w2.heap.size := Nat.lt_of_lt_of_le hgp Hb3.out.size; clear hb2)
          | (go_at_call 12; go_fit (HE.out w1); rintro e w2 ⟨rfl, hb2⟩; have Hb2 := Lib.hid hb2; have Hb3 := Lib.hid (Hb1.out.trans (Hb2.out.mono Hb1.out.size)); obtain ⟨h0, h1, h2, h3, h4, h5, h6⟩ := (H5.out.below Hb3.out).cells; have ha1 : w.heap.size < w2.heap.size := Nat.lt_of_lt_of_le hgv Hb3.out.size; have ha2 : gs < w2.heap.size := Nat.lt_of_lt_of_le hsg5 Hb3.out.size; have ha3 : gp < w2.heap.size := Nat.lt_of_lt_of_le hgp Hb3.out.size; clear hb2)
          | (go_at_call 10; go_fit (HS.out w2 Hb2.out); rintro e w3 ⟨kb, nb, tb, Akb, nkb, ckb, Apb, npb, cpb, Fb, rfl, hvb, hFb, hob⟩; have HxB3 := Lib.hid (onl_blk hob HxB2.out HxBn.out); have HnB3 := Lib.hid (fun (b : Nat) (h : Fb b) => show b ≠ W5.heap.size from fun e => by subst e; rcases (hFb _ h).1 with h1 | h1; exact HxBn.out h1; exact absurd (Nat.lt_of_lt_of_le HxB2.out.lt h1) (Nat.lt_irrefl _)); have Hv3 := Lib.hid hvb; have Hb4 := Lib.hid ((Hb3.out).trans (hob.below (Hb3.out.size) Hnw.out)); have HF3 := Lib.hid (fun (b : Nat) (h : Fb b) => show W5.heap.size ≤ b ∧ b < w3.heap.size from ⟨by rcases (hFb b h).1 with h1 | h1; exact Hnw.out b h1; exact Nat.le_trans (Hb3.out.size) h1, (hFb b h).2⟩); obtain ⟨s0, s1, s2, s3, s4, z0, z1, z2, z3, z4⟩ := sl_box HxB3.out; obtain ⟨i0, i1, i2, i3, i4, i5, i6⟩ := (H5.out.below Hb4.out).cells; have ia1 : w.heap.size < w3.heap.size := Nat.lt_of_lt_of_le hgv Hb4.out.size; have ia2 : gs < w3.heap.size := Nat.lt_of_lt_of_le hsg5 Hb4.out.size; have ia3 : gp < w3.heap.size := Nat.lt_of_lt_of_le hgp Hb4.out.size; clear hvb hFb hob)
          | (go_at_call 10; go_fit (HS.out w2 Hb2.out); rintro e w3 ⟨kb, nb, tb, Akb, nkb, ckb, Apb, npb, cpb, Fb, rfl, hvb, hFb, hob⟩; have HxC3 := Lib.hid (onl_blk hob HxC2.out (fun h => absurd h.2 (Nat.lt_irrefl _))); have HnC3 := Lib.hid (fun (b : Nat) (h : Fb b) => show b ≠ w1.heap.size from fun e => by subst e; rcases (hFb _ h).1 with h1 | h1; exact absurd h1.2 (Nat.lt_irrefl _); exact absurd (Nat.lt_of_lt_of_le HxC2.out.lt h1) (Nat.lt_irrefl _)); have Hv3 := Lib.hid hvb; have Hb4 := Lib.hid ((Hb3.out).trans (hob.below (Hb3.out.size) Hnw.out)); have HF3 := Lib.hid (fun (b : Nat) (h : Fb b) => show W5.heap.size ≤ b ∧ b < w3.heap.size from ⟨by rcases (hFb b h).1 with h1 | h1; exact Hnw.out b h1; exact Nat.le_trans (Hb3.out.size) h1, (hFb b h).2⟩); obtain ⟨s0, s1, s2, s3, s4, z0, z1, z2, z3, z4⟩ := sl_box HxC3.out; obtain ⟨i0, i1, i2, i3, i4, i5, i6⟩ := (H5.out.below Hb4.out).cells; have ia1 : w.heap.size < w3.heap.size := Nat.lt_of_lt_of_le hgv Hb4.out.size; have ia2 : gs < w3.heap.size := Nat.lt_of_lt_of_le hsg5 Hb4.out.size; have ia3 : gp < w3.heap.size := Nat.lt_of_lt_of_le hgp Hb4.out.size; clear hvb hFb hob)
          | (go_at_call 10; go_fit (HS.out (w2.alloc (.cells #[.int .i64 0, .int .i64 0, str [], .slice none 0 0, .slice none 0 0] 25)) (Hb2.out.alloc Hb2.out.size _)); rintro e w3 ⟨kb, nb, tb, Akb, nkb, ckb, Apb, npb, cpb, Fb, rfl, hvb, hFb, hob⟩; have HxD3 := Lib.hid (onl_blk hob (Blk.new w2 25 #[.int .i64 0, .int .i64 0, str [], .slice none 0 0, .slice none 0 0]) (fun h => absurd (Nat.lt_of_lt_of_le h.2 Hb2.out.size) (Nat.lt_irrefl _))); have HnD3 := Lib.hid (fun (b : Nat) (h : Fb b) => show b ≠ w2.heap.size from fun e => by subst e; rcases (hFb _ h).1 with h1 | h1; exact absurd (Nat.lt_of_lt_of_le h1.2 Hb2.out.size) (Nat.lt_irrefl _); simp at h1; omega); have Hv3 := Lib.hid hvb; have Hb4 := Lib.hid ((Hb3.out.alloc Hb3.out.size _).trans (hob.below (Nat.le_trans Hb3.out.size (by simp)) Hnw.out)); have HF3 := Lib.hid (fun (b : Nat) (h : Fb b) => show W5.heap.size ≤ b ∧ b < w3.heap.size from ⟨by rcases (hFb b h).1 with h1 | h1; exact Hnw.out b h1; exact Nat.le_trans (Nat.le_trans Hb3.out.size (by simp)) h1, (hFb b h).2⟩); obtain ⟨s0, s1, s2, s3, s4, z0, z1, z2, z3, z4⟩ := sl_box HxD3.out; obtain ⟨i0, i1, i2, i3, i4, i5, i6⟩ := (H5.out.below Hb4.out).cells; have ia1 : w.heap.size < w3.heap.size := Nat.lt_of_lt_of_le hgv Hb4.out.size; have ia2 : gs < w3.heap.size := Nat.lt_of_lt_of_le hsg5 Hb4.out.size; have ia3 : gp < w3.heap.size := Nat.lt_of_lt_of_le hgp Hb4.out.size; clear hvb hFb hob)
          | (go_at_call 10; go_fit (HS.out w2 Hb2.out); rintro e w3 ⟨kb, nb, tb, Akb, nkb, ckb, Apb, npb, cpb, Fb, rfl, hvb, hFb, hob⟩; have Hv3 := Lib.hid hvb; have Hb4 := Lib.hid ((Hb3.out).trans (hob.below (Hb3.out.size) Hnw.out)); have HF3 := Lib.hid (fun (b : Nat) (h : Fb b) => show W5.heap.size ≤ b ∧ b < w3.heap.size from ⟨by rcases (hFb b h).1 with h1 | h1; exact Hnw.out b h1; exact Nat.le_trans (Hb3.out.size) h1, (hFb b h).2⟩); skip; obtain ⟨i0, i1, i2, i3, i4, i5, i6⟩ := (H5.out.below Hb4.out).cells; have ia1 : w.heap.size < w3.heap.size := Nat.lt_of_lt_of_le hgv Hb4.out.size; have ia2 : gs < w3.heap.size := Nat.lt_of_lt_of_le hsg5 Hb4.out.size; have ia3 : gp < w3.heap.size := Nat.lt_of_lt_of_le hgp Hb4.out.size; clear hvb hFb hob))
      all_goals
        go_wp2_with fail
        go_meet
        first
          | (have hB := HxB3.out; exact ⟨_, kb, nb, tb, Akb, nkb, ckb, Apb, npb, cpb, Fb, rfl, sl_set5 HxB3.out _ _ _ _ _, vow_set5 Hv3.out HnB3.out _ _ _ _ _, fun b h => by rw [sl_size5]; exact HF3.out b h, sl_below5 Hb4.out (Nat.le_refl _) _ _ _ _ _⟩)
          | (have hB := HxC3.out; exact ⟨_, kb, nb, tb, Akb, nkb, ckb, Apb, npb, cpb, Fb, rfl, sl_set5 HxC3.out _ _ _ _ _, vow_set5 Hv3.out HnC3.out _ _ _ _ _, fun b h => by rw [sl_size5]; exact HF3.out b h, sl_below5 Hb4.out Hb1.out.size _ _ _ _ _⟩)
          | (have hB := HxD3.out; exact ⟨_, kb, nb, tb, Akb, nkb, ckb, Apb, npb, cpb, Fb, rfl, sl_set5 HxD3.out _ _ _ _ _, vow_set5 Hv3.out HnD3.out _ _ _ _ _, fun b h => by rw [sl_size5]; exact HF3.out b h, sl_below5 Hb4.out Hb3.out.size _ _ _ _ _⟩)
          | exact ⟨_, kb, nb, tb, Akb, nkb, ckb, Apb, npb, cpb, Fb, rfl, Blk.new _ _ _, VOw.alloc Hv3.out (fun b h => (HF3.out b h).2) _, fun b h => ⟨(HF3.out b h).1, Nat.lt_of_lt_of_le (HF3.out b h).2 (by simp)⟩, Hb4.out.alloc Hb4.out.size _⟩
    case rest =>
      obtain ⟨g, k2, n2, t2, Ak2, nk2, ck2, Ap2, np2, cp2, F2, rfl, hbx, hvx, hF2, hb9⟩ := hcut
      rw [HJ1.out] at hvx
      clear HCA HCB HE HST HnB HzA HzB hsl v0 v1 v2 v3 v4 q0 q1
      have hw9 := HwA.out.trans (hb9.mono HwA.out.size)
      have hr9 := HrA.out.below hb9 HrA.out.lt
      have hcnt9 : count (putJ v u k x y) ≤ 1073741824 := by
        have h1 := put_count (sigV r s) [sigK, u, k] v
        rw [HJ1.out] at h1
        have h2 := Hcv.out
        simp [sigV, count, counts] at h1; omega
      obtain ⟨s0, s1, s2, s3, s4, -, -, -, -, -⟩ := sl_box hbx
      have hHV := Lib.hid (VOw.toV _ _ _ hvx)
      have Hvx := Lib.hid hvx
      have HF2 := Lib.hid hF2
      clear hvx hF2
      go_wp2_with fail
      refine (Check_any (putJ v u k x y) _ wc wc.heap.size (Nat.le_refl _) hHV.out (Htab.out.on hw9).here hcnt9).mono ?_
      rintro e w6 ⟨rfl, hb6⟩
      have hw6 := hw9.trans (hb6.mono hw9.size)
      have hr6 := hr9.below hb6 hr9.lt
      have hbx6 := hbx.below hb6 hbx.lt
      obtain ⟨o0, o1, o2, o3, o4, z0, z1, z2, z3, z4⟩ := sl_box hr6
      obtain ⟨x0, x1, x2, x3, x4, -, -, -, -, -⟩ := sl_box hbx6
      have hrsz : w.heap.size + 1 < W5.heap.size := HrA.out.lt
      by_cases hc0 : checkN (putJ v u k x y) = 0
      · have HR := Lib.hid (show putN v u k x y = 0 by rw [HN1.out, hc0])
        have HRV := Lib.hid (show putV v u k x y = putJ v u k x y by rw [HVV.out, if_pos HR.out])
        have hv6 := VOw.below Hvx.out (fun b h => (HF2.out b h).2) hb6
        have Hv7 := Lib.hid (vow_set5 (g := w.heap.size + 1) hv6 (fun b h => by have := (HF2.out b h).1; omega) (.int .i64 k2) (.int .i64 n2) (str t2) (.slice Ak2 nk2 ck2) (.slice Ap2 np2 cp2))
        rw [hc0]
        clear hc0 hv6
        go_wp2_with fail
        refine ret_v2 (by rfl) (by rfl) (by rfl) (sl_set5 hr6 _ _ _ _ _) (by rfl) ?_
        rw [HR.out, HRV.out]
        exact ⟨_, rfl, Hv7.out.mono (fun b h => ⟨by have := (HF2.out b h).1; have := hrsz; omega, by rw [sl_size5]; exact Nat.lt_of_lt_of_le (HF2.out b h).2 hb6.size⟩), sl_below5 hw6 (by omega) _ _ _ _ _⟩
      · have HR := Lib.hid (show putN v u k x y = checkN (putJ v u k x y) from HN1.out)
        have HRV := Lib.hid (show putV v u k x y = zeroJ by rw [HVV.out, HR.out, if_neg hc0])
        generalize checkN (putJ v u k x y) = a at *
        have hab : (a != 0) = true := by simpa using hc0
        clear hc0
        go_wp2_with fail
        refine ret_v2 (by rfl) (by rfl) (by rfl) (sl_set5 hr6 _ _ _ _ _) (by rfl) ?_
        rw [HR.out, HRV.out]
        exact ⟨_, rfl, zero_vow _ _, sl_below5 hw6 (by omega) _ _ _ _ _⟩
  · have hmb : (m != 0) = true := by simpa using hm
    have HR := Lib.hid (show putN v u k x y = m by rw [HNN.out, if_pos hm])
    have HRV := Lib.hid (show putV v u k x y = zeroJ by rw [HVV.out, HR.out, if_neg hm])
    have hsz4 : w.heap.size + 1 < w4.heap.size := hr4.lt
    obtain ⟨o0, o1, o2, o3, o4, z0, z1, z2, z3, z4⟩ := sl_box hr4
    clear hm HNN HVV HJJ hxA hpA hsg hA
    go_wp2_with fail
    refine ret_v2 (by rfl) (by rfl) (by rfl) ((sl_set5 hr4 _ _ _ _ _).alloc _) (by rfl) ?_
    rw [HR.out, HRV.out]
    exact ⟨_, rfl, zero_vow _ _, (sl_below5 hw4 (by omega) _ _ _ _ _).alloc (by rw [sl_size5]; exact hw4.size) _⟩
/-- seal.Put, at every argument. -/
theorem sealPut_any (v : JV) (cs : List Value) (u k : List UInt8) (x y : Int) (w : World) (B : Nat) (hB : B ≤ w.heap.size) (hv : VIn w B v cs) (htab : Tab w.heap.size w) (hgl : Gl w) (hcnt : count v ≤ 1073741824) (hu : u.length ≤ maxLen) (hk : k.length ≤ maxLen) :
    Calls Tryz.prog 4 #[.agg cs.toArray, str u, str k, .int .i64 x, .int .i64 y] w (PutPost (putV v u k x y) (putN v u k x y) w) := by
  by_cases hT : tapN v u k = 0
  · cases hb : blockedP [sigK, u, k] v
    · exact sealPut_go v cs u k x y w B hB hv htab hgl hcnt hu hk hT hb
    · have hn : putN v u k x y = 4 := by unfold putN; rw [if_neg (by simpa using hT), if_pos hb]
      have hz : putV v u k x y = zeroJ := by unfold putV; rw [hn, if_neg (by omega)]
      rw [hn, hz]
      exact (sealPut_blk v cs u k x y w B hB hv htab hgl hcnt hu hk hT hb).mono fun e w' h => h.post
  · have hn : putN v u k x y = tapN v u k := by unfold putN; rw [if_pos hT]
    have hz : putV v u k x y = zeroJ := by unfold putV; rw [hn, if_neg hT]
    rw [hn, hz]
    exact (sealPut_tap v cs u k x y w B hB hv htab hgl hcnt hu hk hT).mono fun e w' h => h.post
end Go.Proofs.YtbdbcffnjibjoaaGreatDoor

/- Plain mathematics of the statements about package seal: objects that are sealed by two users with one key each. -/
namespace Go.Proofs.YtbdbcffnjibjoaaGreatDoor
set_option linter.unusedVariables false
set_option linter.unusedSimpArgs false

def uA : List UInt8 := [64, 97, 58, 120]
def uB : List UInt8 := [64, 98, 58, 120]
def kE : List UInt8 := [101, 100, 58, 65]
/-- A user's signatures: one, by the key kE. -/
def inE (e : JV) : JV := .mk 7 0 [] [kE] [e]
def S1 (u : List UInt8) (e : JV) : JV := .mk 7 0 [] [u] [inE e]
def S2 (e f : JV) : JV := .mk 7 0 [] [uA, uB] [inE e, inE f]
theorem put_in0 (e : JV) : putAt [kE] (.mk 7 0 [] [] []) e = inE e := by
  simp [putAt, place, inE]
theorem put_inE (e f : JV) : putAt [kE] (inE f) e = inE e := by
  simp [putAt, place, inE, bytesLess_irrefl]
theorem put_S1 (u : List UInt8) (e : JV) : putAt [u, kE] (.mk 7 0 [] [] []) e = S1 u e := by
  rw [putAt, if_neg (by simp), put_in0]; simp [S1, place]
theorem put_S1B (e f : JV) : putAt [uB, kE] (S1 uA e) f = S2 e f := by
  have h1 : place [uA] uB = 1 := by decide
  rw [S1, putAt, if_neg (by decide), put_in0, h1]; rfl
theorem put_S1A (e f : JV) : putAt [uA, kE] (S1 uB f) e = S2 e f := by
  have h1 : place [uB] uA = 0 := by decide
  rw [S1, putAt, if_neg (by decide), put_in0, h1]; rfl
theorem put_S2 (e e' f : JV) : putAt [uA, kE] (S2 e f) e' = S2 e' f := by
  have h1 : place [uA, uB] uA = 0 := by decide
  rw [S2, putAt, if_pos (by decide), h1, show [inE e, inE f].getD 0 (.mk 7 0 [] [] []) = inE e from rfl, put_inE]; rfl
theorem get_in (e : JV) : getAt [kE] (inE e) = some e := by
  simp [getAt, place, inE, bytesLess_irrefl]
theorem get_S1 (u : List UInt8) (e : JV) : getAt [u, kE] (S1 u e) = some e := by
  rw [S1, getAt, if_pos (by simp), show place [u] u = 0 by simp [place, bytesLess_irrefl]]
  exact get_in e
theorem get_S1' (u : List UInt8) (e : JV) : getAt [u] (S1 u e) = some (inE e) := by
  rw [S1, getAt, if_pos (by simp), show place [u] u = 0 by simp [place, bytesLess_irrefl]]
  rfl
theorem get_S2A (e f : JV) : getAt [uA, kE] (S2 e f) = some e := by
  rw [S2, getAt, if_pos (by decide), show place [uA, uB] uA = 0 by decide]
  exact get_in e
theorem get_S2A' (e f : JV) : getAt [uA] (S2 e f) = some (inE e) := by
  rw [S2, getAt, if_pos (by decide), show place [uA, uB] uA = 0 by decide]
  rfl
theorem get_S2B (e f : JV) : getAt [uB, kE] (S2 e f) = some f := by
  rw [S2, getAt, if_pos (by decide), show place [uA, uB] uB = 1 by decide]
  exact get_in f
theorem get_S1B' (e : JV) : getAt [uB] (S1 uA e) = none := by
  rw [S1, getAt, if_neg (by decide)]
theorem get_S1A' (e : JV) : getAt [uA] (S1 uB e) = none := by
  rw [S1, getAt, if_neg (by decide)]

/-- A signature, as a value. -/
def IsSig (e : JV) : Prop := ∃ r s, e = sigV r s
theorem sig_fault {e : JV} (h : IsSig e) {d : Nat} (hd : d < 6) : fault d e = 0 := by
  obtain ⟨r, s, rfl⟩ := h
  exact okAt_of (deep := 1) (by omega) (alone_str _) (fun d _ => by unfold faults; rfl) d (by omega)
theorem sig_count {e : JV} (h : IsSig e) : count e = 1 := by
  obtain ⟨r, s, rfl⟩ := h; rfl
theorem sig_text {e : JV} (h : IsSig e) : (jtext e).length ≤ 38 := by
  obtain ⟨r, s, rfl⟩ := h
  have h1 := (quo_len (enc (sigB r s))).2
  have h2 : (enc (sigB r s)).length = 6 := by rw [enc_length]; simp [sigB]
  rw [sigV, jtext]
  simp; omega
theorem in_fault {e : JV} (h : IsSig e) {d : Nat} (hd : d < 5) : fault d (inE e) = 0 :=
  fault_seven (by omega) rfl rfl (by simp [faults, sig_fault h (by omega : d + 1 < 6)])
/-- What is under the key of the signatures, and no more than this. -/
structure SOk (S : JV) : Prop where
  ok : fault 1 S = 0
  many : count S ≤ 5
  text : (jtext S).length ≤ 111
  kind : S.kind = 7
theorem quo_u {u : List UInt8} (h : u = uA ∨ u = uB) : (quo u).length = 6 := by rcases h with rfl | rfl <;> rfl
theorem in_text {e : JV} (h : IsSig e) : (jtext (inE e)).length ≤ 47 := by
  have := sig_text h
  have hq : (quo kE).length = 6 := rfl
  rw [inE, jtext_seven]
  simp [jobj, sep]; omega
theorem S1_ok {u : List UInt8} {e : JV} (hu : u = uA ∨ u = uB) (h : IsSig e) : SOk (S1 u e) := by
  refine ⟨fault_seven (by omega) rfl rfl (by simp [faults, in_fault h]), ?_, ?_, rfl⟩
  · simp [S1, inE, count, counts, sig_count h]
  · have h1 := in_text h
    have h2 := quo_u hu
    rw [S1, jtext_seven]
    simp [jobj, sep]; omega
theorem S2_ok {e f : JV} (h : IsSig e) (h' : IsSig f) : SOk (S2 e f) := by
  refine ⟨fault_seven (by omega) rfl (by decide) (by simp [faults, in_fault h, in_fault h']), ?_, ?_, rfl⟩
  · simp [S2, inE, count, counts, sig_count h, sig_count h']
  · have h1 := in_text h
    have h3 := in_text h'
    have h2 : (quo uA).length = 6 := rfl
    have h4 : (quo uB).length = 6 := rfl
    rw [S2, jtext_seven]
    simp [jobj, sep]; omega

/-! ### objects of the statements -/
/-- What ObjectOf makes, where it has room. -/
structure Obj0 (v : JV) : Prop where
  plain : Plain v
  many : counts v.parts ≤ 52
  text : (jtext v).length ≤ 400
  mem : ∀ k ∈ v.keys, omitK k = false
theorem omit_sig : omitK sigK = true := by decide
theorem omit_uns : omitK unsK = true := by decide
theorem Obj0.sig {v : JV} (h : Obj0 v) : sigK ∉ v.keys := fun hm => by have := h.mem _ hm; rw [omit_sig] at this; cases this
theorem Obj0.uns {v : JV} (h : Obj0 v) : unsK ∉ v.keys := fun hm => by have := h.mem _ hm; rw [omit_uns] at this; cases this
theorem quo_sig : (quo sigK).length = 12 := rfl
theorem quo_uns : (quo unsK).length = 10 := rfl
/-- The object with its signatures. -/
theorem Obj0.check {v : JV} (h : Obj0 v) : checkN v = 0 := h.plain.check (by have := h.many; omega) (by have := h.text; omega)
theorem Obj0.sealed {v S : JV} (h : Obj0 v) (hS : SOk S) : Plain (insO sigK v S) := h.plain.insO h.sig hS.ok
theorem Obj0.sealed_text {v S : JV} (h : Obj0 v) (hS : SOk S) : (jtext (insO sigK v S)).length ≤ 525 := by
  have h1 := insO_text (k := sigK) (S := S) h.plain
  have h2 := h.text
  have h3 := hS.text
  rw [quo_sig] at h1
  omega
theorem Obj0.sealed_many {v S : JV} (h : Obj0 v) (hS : SOk S) : counts (insO sigK v S).parts ≤ 57 := by
  have h1 := insO_counts sigK v S
  have h2 := h.many
  have h3 := hS.many
  omega
theorem Obj0.sealed_check {v S : JV} (h : Obj0 v) (hS : SOk S) : checkN (insO sigK v S) = 0 :=
  (h.sealed hS).check (by have := h.sealed_many hS; omega) (by have := h.sealed_text hS; omega)
theorem Obj0.bare {v : JV} (h : Obj0 v) : strip v = v := h.plain.strip h.mem
theorem Obj0.sealed_strip {v S : JV} (h : Obj0 v) : strip (insO sigK v S) = v := by rw [insO_strip h.plain omit_sig, h.bare]
theorem sText_of {v : JV} (h1 : checkN v = 0) (h7 : v.kind = 7) : sTextN v = 0 ∧ sTextL v = jtext (strip v) := by
  have h : sTextN v = 0 := by unfold sTextN; rw [if_neg (by simpa using h1), if_neg (by simpa using h7)]
  exact ⟨h, by unfold sTextL; rw [if_pos h]⟩
theorem Obj0.says {v : JV} (h : Obj0 v) : sTextN v = 0 ∧ sTextL v = jtext v := by
  have := sText_of h.check h.plain.kind
  rwa [h.bare] at this
theorem Obj0.sealed_says {v S : JV} (h : Obj0 v) (hS : SOk S) : sTextN (insO sigK v S) = 0 ∧ sTextL (insO sigK v S) = jtext v := by
  have := sText_of (h.sealed_check hS) (h.sealed hS).kind
  rwa [h.sealed_strip] at this
theorem names_A : nameOk uA kE = true := by decide
theorem names_B : nameOk uB kE = true := by decide
theorem names_of {u : List UInt8} (h : u = uA ∨ u = uB) : nameOk u kE = true := by
  rcases h with rfl | rfl
  · exact names_A
  · exact names_B
theorem tap_of {v : JV} {u : List UInt8} (h : u = uA ∨ u = uB) (hs : sTextN v = 0) : tapN v u kE = 0 := by
  unfold tapN; rw [if_neg (by simp [hs]), if_pos (names_of h)]
theorem Obj0.free {v : JV} (h : Obj0 v) (u : List UInt8) : blockedP [sigK, u, kE] v = false := by
  unfold blockedP badAt
  simp [getAt, h.plain.kind, h.plain.get sigK [] h.sig, h.plain.get sigK [u] h.sig]
theorem Obj0.sealed_free {v S : JV} (h : Obj0 v) (hS : SOk S) (u : List UInt8) (hu : ∀ p, getAt [u] S = some p → p.kind = 7) : blockedP [sigK, u, kE] (insO sigK v S) = false := by
  have h1 : getAt [sigK] (insO sigK v S) = some S := insO_get sigK [] h.plain
  have h2 : getAt [sigK, u] (insO sigK v S) = getAt [u] S := insO_get sigK [u] h.plain
  unfold blockedP badAt
  simp only [List.take_succ_cons, List.take_zero, getAt, h1, h2]
  rw [show (insO sigK v S).kind = 7 from rfl, hS.kind]
  cases hg : getAt [u] S with
  | none => rfl
  | some p => simp [hu p hg]

/-! ### signatures -/
/-- The signature by the secret a with the nonce k of the text L. -/
def sigOf (a k : Nat) (L : List UInt8) : JV := sigV (pw 4 k % 7823) ((k + a * hsh (pw 4 k % 7823) L) % 3911)
theorem sigOf_is (a k : Nat) (L : List UInt8) : IsSig (sigOf a k L) := ⟨_, _, rfl⟩
theorem sigD_enc {r s : Nat} (hr : r < 65536) (hs : s < 65536) : sigD (enc (sigB r s)) = some (r, s) := by
  have h := dec_enc (sigB r s)
  unfold sigD
  rw [show dec 0 0 (enc (sigB r s)) = some (sigB r s) from h]
  simp only [sigB, UInt8.toNat_ofNat']
  congr 2 <;> omega
structure Sec (a : Nat) : Prop where
  one : 1 ≤ a
  lt : a < 3911
/-- What Put makes of an object whose text is L. -/
theorem put_says {v : JV} {u : List UInt8} {a k : Nat} {L : List UInt8} (ha : Sec a) (hk : Sec k) (hu : u = uA ∨ u = uB) (hs : sTextN v = 0) (hL : sTextL v = L) (hl : L.length ≤ 600) (hb : blockedP [sigK, u, kE] v = false) {J : JV} (hJ : putAt [sigK, u, kE] v (sigOf a k L) = J) (hc : checkN J = 0) :
    putN v u kE (a : Int) (k : Int) = 0 ∧ putV v u kE (a : Int) (k : Int) = J := by
  have hm : putM v (a : Int) (k : Int) = (pw 4 k % 7823, (k + a * hsh (pw 4 k % 7823) L) % 3911, 0) := by
    unfold putM; rw [hL]; exact makeR_nat ha.one ha.lt hk.one hk.lt hl
  have hj : putJ v u kE (a : Int) (k : Int) = J := by unfold putJ; rw [hm]; exact hJ
  have hn : putN v u kE (a : Int) (k : Int) = 0 := by
    unfold putN
    rw [if_neg (by simp [tap_of hu hs]), if_neg (by simp [hb]), hm, if_neg (by simp), hj, hc]
  exact ⟨hn, by unfold putV; rw [if_pos hn, hj]⟩
/-- What Check says of it. -/
theorem chk_says {v : JV} {u : List UInt8} {a b k : Nat} {L T : List UInt8} (ha : Sec a) (hb : Sec b) (hk : Sec k) (hu : u = uA ∨ u = uB) (hs : sTextN v = 0) (hL : sTextL v = T) (hl : T.length ≤ 600) (hg : getAt [sigK, u, kE] v = some (sigOf a k L)) :
    chkN v u kE ((pw 4 b % 7823 : Nat) : Int) = if (k + a * hsh (pw 4 k % 7823) L) % 3911 = (k + b * hsh (pw 4 k % 7823) T) % 3911 then 0 else 9 := by
  unfold chkN
  rw [if_neg (by simp [tap_of hu hs]), hg]
  show foundN v (sigOf a k L) _ = _
  have hp := Nat.mod_lt (pw 4 k) (show 0 < 7823 by omega)
  have hq := Nat.mod_lt (k + a * hsh (pw 4 k % 7823) L) (show 0 < 3911 by omega)
  unfold foundN sigOf
  rw [if_pos (show (sigV (pw 4 k % 7823) ((k + a * hsh (pw 4 k % 7823) L) % 3911)).kind = 5 from rfl), show (sigV (pw 4 k % 7823) ((k + a * hsh (pw 4 k % 7823) L) % 3911)).text = enc (sigB (pw 4 k % 7823) ((k + a * hsh (pw 4 k % 7823) L) % 3911)) from rfl, sigD_enc (by omega) (by omega), hL]
  exact checkR_nat hb.one hb.lt hk.one hk.lt hq hl
theorem chk_good {v : JV} {u : List UInt8} {a k : Nat} {L : List UInt8} (ha : Sec a) (hk : Sec k) (hu : u = uA ∨ u = uB) (hs : sTextN v = 0) (hL : sTextL v = L) (hl : L.length ≤ 600) (hg : getAt [sigK, u, kE] v = some (sigOf a k L)) : chkN v u kE ((pw 4 a % 7823 : Nat) : Int) = 0 := by
  rw [chk_says ha ha hk hu hs hL hl hg, if_pos rfl]
theorem chk_none {v : JV} {u : List UInt8} (pub : Int) (hu : u = uA ∨ u = uB) (hs : sTextN v = 0) (hg : getAt [sigK, u, kE] v = none) : chkN v u kE pub = 8 := by
  unfold chkN; rw [if_neg (by simp [tap_of hu hs]), hg]
end Go.Proofs.YtbdbcffnjibjoaaGreatDoor

/- What ObjectOf of the statements makes. Nothing of the program is named here but what json.Check answers. -/
namespace Go.Proofs.YtbdbcffnjibjoaaGreatDoor
set_option linter.unusedVariables false
set_option linter.unusedSimpArgs false

def okL : List (List UInt8) := [[97], [107, 101, 121, 115], [115], [117, 115, 101, 114, 95, 105, 100]]
theorem okL_incr (m : Nat) : incr (okL.take m) = true := by
  match m with
  | 0 => rfl
  | 1 => rfl
  | 2 => decide
  | 3 => decide
  | 4 => decide
  | m + 5 => rw [List.take_of_length_le (by simp [okL])]; decide
theorem okL_omit : ∀ k ∈ okL, omitK k = false := by decide
theorem okL_front : ∀ k ∈ okL, Op.bytesLess [65] k = true := by decide
theorem okL_len : ∀ s ∈ okL, s.length ≤ 1048576 := by decide
/-- What ObjectOf makes. -/
structure ObjM (v : JV) : Prop where
  plain : Plain v
  many : counts v.parts ≤ 52
  keys : ∃ m, v.keys = okL.take m
theorem ObjM.of {ps : List JV} {m : Nat} (hm : m ≤ 4) (hl : ps.length = m) (hok : ∀ p ∈ ps, OkAt 3 p) (hc : counts ps ≤ m * 13) : ObjM (.mk 7 0 [] (okL.take m) ps) :=
  ⟨⟨rfl, by show (okL.take m).length = ps.length; simp [okL]; omega, okL_incr m, faults_of fun p hp => hok p hp 1 (by omega)⟩, by show counts ps ≤ 52; omega, ⟨m, rfl⟩⟩
theorem ObjM.obj {v : JV} (h : ObjM v) (ht : (jtext v).length ≤ 400) : Obj0 v :=
  ⟨h.plain, h.many, ht, fun k hk => by
    obtain ⟨m, e⟩ := h.keys
    rw [e] at hk
    exact okL_omit k (List.mem_of_mem_take hk)⟩
theorem ObjM.check {v : JV} (h : ObjM v) : checkN v = if 600 < (jtext v).length then 1 else 0 := by
  have h1 : fault 0 v = 0 := by rw [h.plain.form]; exact fault_seven (by omega) h.plain.len h.plain.incr h.plain.ok
  have h2 : count v ≤ 100 := by have := h.many; rw [h.plain.form]; simp only [count]; omega
  unfold checkN
  rw [if_neg (by simpa using h1)]
  by_cases h3 : 600 < (jtext v).length
  · rw [if_pos (.inr h3), if_pos h3]
  · rw [if_neg (by omega), if_neg h3]
theorem ObjM.front {v : JV} (h : ObjM v) : ∀ k ∈ v.keys, Op.bytesLess [65] k = true := fun k hk => by
  obtain ⟨m, e⟩ := h.keys
  rw [e] at hk
  exact okL_front k (List.mem_of_mem_take hk)
theorem ObjM.count {v : JV} (h : ObjM v) : count v ≤ 100 := by have := h.many; rw [h.plain.form]; simp only [Go.Proofs.YtbdbcffnjibjoaaGreatDoor.count]; omega
end Go.Proofs.YtbdbcffnjibjoaaGreatDoor

/- sealedBy and fits of the statements: what each call returns. -/
namespace Go.Proofs.YtbdbcffnjibjoaaGreatDoor
set_option linter.unusedVariables false
set_option linter.unusedSimpArgs false
open Go.RowKit
attribute [local go_sem high] str_mk
/-- The end of a function with three results, the first of which is a value in memory. -/
theorem ret_v3 {fn : Func} {R : Ending → World → Prop} {a : Act} {W : World} {g : Nat} {s1 s2 s3 : Tmp} {b b' x0 x1 x2 x3 x4 : Value}
    (hf : fn.results = #[.cell s1 25, .tmp s2, .tmp s3]) (h1 : a.tmps.getD s1 undef = .pointer (some ⟨g, 0, none⟩)) (h2 : a.tmps.getD s2 undef = b) (h3 : a.tmps.getD s3 undef = b')
    (hb : Blk W g 25 #[x0, x1, x2, x3, x4]) (hd : a.defers = []) (hR : R (.returned (.tuple #[.agg #[x0, x1, x2, x3, x4], b, b'])) W) : bodyPost Tryz.prog fn R .ret a W := by
  refine bodyPost_ret ?_ hd hR
  obtain ⟨c0, c1, c2, c3, c4, _⟩ := sl_box hb
  simp only [Array.getD_eq_getD_getElem?] at h1 h2 h3
  simp [results, hf, h1, h2, h3, go_sem, c0, c1, c2, c3, c4]
def SbyPost (J : JV) (p : Nat) (b : Bool) (w : World) (e : Ending) (w' : World) : Prop :=
  ∃ k n t Ak nk ck Ap np cp, e = .returned (.tuple #[.agg #[.int .i64 k, .int .i64 n, str t, .slice Ak nk ck, .slice Ap np cp], .int .i64 p, .bool b]) ∧ VOw w' (newS w w') J [.int .i64 k, .int .i64 n, str t, .slice Ak nk ck, .slice Ap np cp] ∧ Below w.heap.size w w'
end Go.Proofs.YtbdbcffnjibjoaaGreatDoor
