/- One-time keys: given: what the statements ask of Play. -/
import Derived.Test.YtaamoilkphjhgabKyPl
import Derived.BigQuiet
namespace Go.Proofs.Ytaamoilkphjhgab
set_option linter.unusedVariables false
set_option linter.unusedSimpArgs false
open Go.RowKit
def lit2 : List Ak := [⟨1, [101, 100], [65], [120], 0⟩, ⟨3, [101, 100], [], [], 1⟩]
theorem lit2_R : (asksR ks0 lit2).1 = [⟨0, [], [], false, 1⟩, ⟨0, [65], [120], false, 0⟩] := by kernel_rfl
theorem lit2_ok : ∀ a ∈ lit2, AkOk a := by
  intro a ha
  simp [lit2] at ha
  rcases ha with rfl | rfl <;> exact ⟨by simp, by simp, by simp, by simp, by simp⟩
/-- A copy of a list of asks: its run. -/
theorem asks_copy {W : World} {B n c : Nat} {A : Option Addr} {l : List Ak} (h : LIn akL 5 W B A n c l) (hn : n ≤ 1048576) :
    ∃ v' wf, (Builtin.append_ #[22, 22] 22 #[.slice none 0 0, .slice A n c]).run Try.prog W = .ok v' wf ∧
      wf.ownsRow W.heap.size 35 5 v' l.length (pcK akL l) ∧ Below W.heap.size W wf := by
  obtain ⟨i0, hi0, hz0, hzs, hzb⟩ := info_parts info_ask
  obtain ⟨h1, h2, h3, h4⟩ := h
  obtain ⟨v', wf, k1, k2, k3, k4⟩ := run_app_all (P := Try.prog) W 22 22 W.heap.size 35 i0 _ 5 64 Try.underlying22 hi0 hz0 hzs hzb rfl (by decide) (.slice none 0 0) 0 [] (World.ownsRow_nil _ _ _ _) B A n c _ h3 h4 (pcK_one akL_one l) (by omega) (by decide) (Nat.le_refl _)
  exact ⟨v', wf, k1, by rw [h1]; simpa using k2, below_own (Below.refl W.heap.size W) k3 (World.ownsRow_nil W W.heap.size 35 5) (Nat.le_refl _) (Nat.le_refl _)⟩
/-- Few asks in a block that has just been laid. -/
theorem asks_lit (W : World) (l : List Ak) (k : Nat) (hk : l.length = k) (ca : Array Value) (hca : ca = (pcK akL l).toArray) :
    LIn akL 5 (W.alloc (.cells ca 35)) (W.alloc (.cells ca 35)).heap.size (some ⟨W.heap.size, 0, none⟩) k k l := by
  subst hca
  refine ⟨hk, Nat.le_refl _, fun h => (by cases h), ⟨by rw [pcK_len akL_len, hk], fun _ => ⟨W.heap.size, 0, rfl, by simp, fun j u hu => ?_⟩⟩⟩
  rw [Nat.zero_add, (Blk.new W 35 _).cell j]
  simpa using hu
def GvnPost (l : List Ak) (w : World) (e : Ending) (w' : World) : Prop :=
  ∃ (A : Option Addr) (c : Nat), e = .returned (.tuple #[.slice A l.length c, .bool true]) ∧ LIn gvL 6 w' w'.heap.size A l.length c (asksR ks0 l).1 ∧ Below w.heap.size w w'
set_option maxHeartbeats 4000000 in
set_option maxRecDepth 100000 in
theorem given_any (A : Option Addr) (n c B : Nat) (l : List Ak) (w : World) (hl : LIn akL 5 w B A n c l) (hn : n ≤ 100) (hg : Gl w) (hok : ∀ a ∈ l, AkOk a) :
    Calls Try.prog 13 #[.slice A n c] w (GvnPost l w) := by
  have hln := hl.1
  obtain ⟨v1, W1, hrun1, ho1, hb1⟩ := asks_copy hl (by omega)
  obtain ⟨A1, c1, rfl, hin1⟩ := LIn.own akL_len ho1
  rw [hln] at hin1
  simp only [hln] at hrun1
  have HP := Lib.hid (kplay_any A1 n c1 W1.heap.size l W1 hin1 (Nat.le_refl _) (by omega) (hg.below hb1) hok)
  have hpl : playK l = ((asksR ks0 l).1, 0) := by unfold playK; rw [if_neg (by omega)]
  unfold PKPost at HP
  rw [hpl] at HP
  simp only [asksR_len, hln] at HP
  have Hrun1 := Lib.hid hrun1
  have Hb1 := Lib.hid hb1
  have Hg := Lib.hid hg
  unfold GvnPost
  rw [hln]
  clear hl hrun1 ho1 hb1 hin1 hpl hg hok
  generalize (asksR ks0 l).1 = R at *
  go_enter Try.func13, Try.ntmps13
  go_wp2_with (first | (at_builtin; refine rw_app rfl _ _ _ rfl _ _ (by rfl) (by rfl) Hrun1.out ?_; clear Hrun1) | fail)
  refine HP.out.mono ?_
  rintro e w2 ⟨A2, c2, rfl, hr2, hb2⟩
  have hb2' : Below w.heap.size w w2 := below_tail Hb1.out hb2 Hb1.out.size
  have hl2 := asks_lit w2 lit2 2 rfl #[.int .i64 1, .string ⟨#[101, 100]⟩, .string ⟨#[65]⟩, .string ⟨#[120]⟩, .int .i64 0, .int .i64 3, .string ⟨#[101, 100]⟩, .string ⟨#[]⟩, .string ⟨#[]⟩, .int .i64 1] rfl
  have hba : Below w2.heap.size w2 (w2.alloc (.cells #[.int .i64 1, .string ⟨#[101, 100]⟩, .string ⟨#[65]⟩, .string ⟨#[120]⟩, .int .i64 0, .int .i64 3, .string ⟨#[101, 100]⟩, .string ⟨#[]⟩, .string ⟨#[]⟩, .int .i64 1] 35)) := (Below.refl _ _).alloc (Nat.le_refl _) _
  have HP2 := Lib.hid (kplay_any _ 2 2 _ lit2 _ hl2 (Nat.le_refl _) (by omega) ((Hg.out.below hb2').below hba) lit2_ok)
  have hpl : playK lit2 = ((asksR ks0 lit2).1, 0) := by unfold playK; rw [if_neg (by decide)]
  unfold PKPost at HP2
  rw [hpl, lit2_R] at HP2
  have Hr2 := Lib.hid hr2
  have Hb2 := Lib.hid hb2'
  have Hba := Lib.hid hba
  clear hr2 hb2 hb2' hl2 hba hpl HP
  go_wp2_with fail
  refine HP2.out.mono ?_
  rintro e w3 ⟨A3, c3, rfl, hr3, hb3⟩
  obtain ⟨b3, off3, hA3, hbb3, hcell⟩ := hr3.at_ gvL_len (i := 1) (by decide)
  subst hA3
  have hd : w3.cell? ⟨b3, off3 + 6 + 2, none⟩ = some (.string ⟨#[65]⟩) := by have := hcell 2 (str [65]) (by omega) rfl; rwa [show off3 + (1 * 6 + 2) = off3 + 6 + 2 by omega] at this
  have hb3' : Below w2.heap.size w2 w3 := below_tail Hba.out hb3 Hba.out.size
  have Hr3 := Lib.hid (Hr2.out.below hb3')
  have Hb3 := Lib.hid (below_tail Hb2.out hb3' Hb2.out.size)
  have hsz3 := hb3'.size
  clear hr3 hb3 hcell hb3' HP2
  have hlen2 : ([(⟨0, [], [], false, 1⟩ : Gv), ⟨0, [65], [120], false, 0⟩]).length = 2 := rfl
  rw [hlen2]
  go_wp2_with fail
  go_quiet (fail)
  go_wp2_with fail
  go_ret2
  exact ⟨A2, c2, rfl, (Hr3.out.wider hsz3).below (below_drewN (Below.refl _ _) _), below_drewN Hb3.out _⟩
end Go.Proofs.Ytaamoilkphjhgab
