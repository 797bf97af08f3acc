/- The disk: run, Play and Held do what the mathematics says. -/
import Derived.Test.YtploicbiapjfdaaDkWalk
import Derived.OwnWalk
import Derived.BigRegion
namespace Go.Proofs.Ytploicbiapjfdaa
set_option linter.unusedVariables false
set_option linter.unusedSimpArgs false
open Go.RowKit

theorem info_errno : (Try.prog.info? 25).map (fun i => (i.zero, i.size, i.bytes)) = some (some (.int .i64 0), 1, 8) := by kernel_rfl
/-- The loop of run: k moves are done. -/
def RunR (ms : List Mv) (w : World) (g R : Nat) (gk : Nat) (v i : Value) (wr : World) : Prop :=
  ∃ (k : Nat) (cv : Value) (A : Option Addr) (c : Nat), v = .slice A k c ∧ i = .int .i64 (k : Int) ∧ k ≤ ms.length ∧ gk = ms.length - k ∧ DkBox wr g w.heap.size cv (plays0 (ms.take k)).2 ∧
    wr.ownsRow w.heap.size 25 1 v k ((plays0 (ms.take k)).1.map (Value.int .i64)) ∧ Blk wr R 85 #[.slice none 0 0, .int .i64 0] ∧ Below w.heap.size w wr
def RunPost (ms : List Mv) (w : World) (e : Ending) (w' : World) : Prop :=
  ∃ (A : Option Addr) (c : Nat) (A2 : Option Addr) (c2 : Nat), e = .returned (.tuple #[.slice A ms.length c, .agg #[.slice A2 (plays0 ms).2.1.length c2, .int .i64 ((plays0 ms).2.2 : Int)]]) ∧
    w'.ownsRow w.heap.size 25 1 (.slice A ms.length c) ms.length ((plays0 ms).1.map (Value.int .i64)) ∧
    w'.ownsRow w.heap.size 5 1 (.slice A2 (plays0 ms).2.1.length c2) (plays0 ms).2.1.length ((plays0 ms).2.1.map bv) ∧ Below w.heap.size w w'

theorem ret_dk {fn : Func} {R : Ending → World → Prop} {a : Act} {W : World} {g : Nat} {s1 s2 : Tmp} {v x0 x1 : Value}
    (hf : fn.results = #[.tmp s1, .cell s2 85]) (h1 : a.tmps.getD s1 undef = v) (h2 : a.tmps.getD s2 undef = .pointer (some ⟨g, 0, none⟩))
    (hb : Blk W g 85 #[x0, x1]) (hd : a.defers = []) (hR : R (.returned (.tuple #[v, .agg #[x0, x1]])) W) : bodyPost Try.prog fn R .ret a W := by
  refine bodyPost_ret ?_ hd hR
  have c0 : W.cell? ⟨g, 0, none⟩ = some x0 := hb.cell 0
  have c1 : W.cell? ⟨g, 1, none⟩ = some x1 := hb.cell 1
  simp only [Array.getD_eq_getD_getElem?] at h1 h2
  simp [results, hf, h1, h2, go_sem, c0, c1]
theorem DkBox.belowS {w w' : World} {g base : Nat} {cv : Value} {s : List UInt8 × Nat} (h : DkBox w g base cv s) (hb : Below w.heap.size w w') : DkBox w' g base cv s :=
  h.grown (only_below hb none) (by simp) (by cases cv.ownBlock <;> simp)
theorem own_belowS {w w' : World} {base e size n : Nat} {v : Value} {xs : List Value} (h : w.ownsRow base e size v n xs) (hb : Below w.heap.size w w') : w'.ownsRow base e size v n xs :=
  World.ownsRow.kept h (only_below hb none) (by cases v.ownBlock <;> simp)
/-- A box of three cells that is laid and filled: nothing else turns. -/
theorem put3_below (W : World) (z : Array Value) (t : TypeId) (a0 a1 a2 : Value) :
    Below W.heap.size W ((((W.alloc (.cells z t)).setCell ⟨W.heap.size, 0, none⟩ a0).setCell ⟨W.heap.size, 1, none⟩ a1).setCell ⟨W.heap.size, 2, none⟩ a2) :=
  ((((Below.refl W.heap.size W).alloc (Nat.le_refl _) _).setCell (Nat.le_refl _) _).setCell (Nat.le_refl _) _).setCell (Nat.le_refl _) _

set_option maxRecDepth 100000 in
theorem run_any (A : Option Addr) (n c B : Nat) (ms : List Mv) (w : World) (hl : MvsIn w B A n c ms) (hB : B ≤ w.heap.size) (hn : n ≤ 100) :
    Calls Try.prog 42 #[.slice A n c] w (RunPost ms w) := by
  have hms := hl.1
  have Hl := Lib.hid hl
  obtain ⟨i0, hi0, hz0, hz1, hz2⟩ := info_parts info_errno
  have hb2 : i0.bytes * n ≤ 281474976710656 := by rw [hz2]; omega
  have hb3 : n ≤ maxLen := by unfold maxLen; omega
  obtain ⟨w3, hrun, r1, r2⟩ := run_make_own (P := Try.prog) ((w.alloc (.cells #[.slice none 0 0, .int .i64 0] 85)).alloc (.cells #[.slice none 0 0, .int .i64 0] 85)) w.heap.size 56 25 i0 _ 1 Try.underlying56 hi0 hz0 hz1 .i64 .i64 n hb2 hb3 (by simp; omega)
  have hB1 := Blk.new w 85 #[.slice none 0 0, .int .i64 0]
  have hB2 := Blk.new (w.alloc (.cells #[.slice none 0 0, .int .i64 0] 85)) 85 #[.slice none 0 0, .int .i64 0]
  have hbe : Below w.heap.size w ((w.alloc (.cells #[.slice none 0 0, .int .i64 0] 85)).alloc (.cells #[.slice none 0 0, .int .i64 0] 85)) := ((Below.refl w.heap.size w).alloc (Nat.le_refl _) _).alloc (by simp) _
  have hR : Blk w3 w.heap.size 85 #[.slice none 0 0, .int .i64 0] := (hB1.alloc _).grown r2 (by simp)
  have hG : Blk w3 (w.heap.size + 1) 85 #[.slice none 0 0, .int .i64 0] := by
    have := hB2.grown r2 (by simp)
    simpa using this
  have hbe3 : Below w.heap.size w w3 := hbe.grown r2 (by simp; omega) (by simp)
  have r1' : w3.ownsRow w.heap.size 25 1 (.slice (some ⟨w.heap.size + 1 + 1, 0, none⟩) 0 n) 0 [] := by simpa using r1
  have Hst := Lib.hid (show RunR ms w (w.heap.size + 1) w.heap.size n (.slice (some ⟨w.heap.size + 1 + 1, 0, none⟩) 0 n) (.int .i64 0) w3 from
    ⟨0, .slice none 0 0, _, _, rfl, rfl, by omega, by omega, ⟨hG, World.ownsRow_nil _ _ _ _, disk0_ok⟩, r1', hR, hbe3⟩)
  clear hl hB1 hB2 hbe hR hG hbe3 r1 r1' r2
  go_enter Try.func42, Try.ntmps42
  go_wp2_with fail
  go_loopg [5, 13] n (RunR ms w (w.heap.size + 1) w.heap.size)
  case atStart => exact Hst.out
  case round =>
    clear Hst hrun hb2 hb3
    obtain ⟨k, cv, Ac, cc, rfl, rfl, hk, hgk, hbox, hrow, hR, hbe⟩ := hrel
    by_cases hlt : k < ms.length
    · obtain ⟨b, off, Ad, cd, rfl, hbB, hmi, c0, c1, c2⟩ := (Hl.out.below (hbe.mono hB)).at_ hlt
      have hmlt : (k : Int) < (n : Int) := by omega
      have Hgk := Lib.hid hgk
      have Hbox := Lib.hid hbox
      have Hrow := Lib.hid hrow
      have HR := Lib.hid hR
      have Hbe := Lib.hid hbe
      have Hmi := Lib.hid hmi
      have hsz := hbe.size
      have hbw : b < wr.heap.size := by omega
      clear hgk hbox hrow hR hbe hmi
      have HT := Lib.hid (plays0_take hlt)
      generalize hq : ms[k] = mk at *
      have Hm2 := Lib.hid (show MIn (wr.alloc (.cells #[.int .i64 mk.kind, .slice Ad mk.data.length cd, .int .i64 mk.n] 60)) (fun b => b < B) mk [.int .i64 mk.kind, .slice Ad mk.data.length cd, .int .i64 mk.n] from
        Hmi.out.kept fun p hp => World.cell?_alloc_lt _ _ p (by have : p.block < B := hp; omega))
      have HC := Lib.hid (move_any (w.heap.size + 1) w.heap.size cv _ _ (Hbox.out.alloc (.cells #[.int .i64 mk.kind, .slice Ad mk.data.length cd, .int .i64 mk.n] 60)) (by simp; omega) mk (fun b => b < B) (fun b hb => by have : b < B := hb; simp; omega) Ad cd Hm2.out)
      generalize hwq : wr.alloc (.cells #[.int .i64 mk.kind, .slice Ad mk.data.length cd, .int .i64 mk.n] 60) = wq at *
      have hnq : Blk wq wr.heap.size 60 #[.int .i64 mk.kind, .slice Ad mk.data.length cd, .int .i64 mk.n] := by rw [← hwq]; exact Blk.new wr 60 _
      have q0 : wq.cell? ⟨wr.heap.size, 0, none⟩ = some (.int .i64 mk.kind) := hnq.cell 0
      have q1 : wq.cell? ⟨wr.heap.size, 1, none⟩ = some (.slice Ad mk.data.length cd) := hnq.cell 1
      have q2 : wq.cell? ⟨wr.heap.size, 2, none⟩ = some (.int .i64 mk.n) := hnq.cell 2
      have hbq : Below wr.heap.size wr wq := by rw [← hwq]; exact (Below.refl _ _).alloc (Nat.le_refl _) _
      have Hbq := Lib.hid hbq
      have Hrow2 := Lib.hid (own_belowS Hrow.out hbq)
      have HR2 := Lib.hid (HR.out.below hbq HR.out.lt)
      have Hbx2 := Lib.hid (Hbox.out.belowS hbq)
      clear hbq Hm2 hnq
      go_wp2_with fail
      refine HC.out.mono ?_
      rintro e w2 ⟨rfl, cv2, hp1, hp2, hp3⟩
      have hgR : w.heap.size ≠ w.heap.size + 1 := by omega
      have hro : w2.ownsRow w.heap.size 25 1 (.slice Ac k cc) k ((plays0 (ms.take k)).1.map (Value.int .i64)) :=
        hp2.row Hrow2.out (row_box Hrow2.out Hbx2.out.1 (by decide)) (row_row Hrow2.out Hbx2.out.2.1 (by decide))
      have hRb : Blk w2 w.heap.size 85 #[.slice none 0 0, .int .i64 0] := (hp2.block _ HR2.out.lt hgR (fun e => row_box Hbx2.out.2.1 HR2.out (by decide) e.symm)).trans HR2.out
      have hbe2 : Below w.heap.size w w2 := ((Hbe.out.trans (Hbq.out.mono hsz))).trans (hp2.toBelow (Nat.le_trans hsz Hbq.out.size) (by omega) fun j hj => (World.ownsRow.lt Hbx2.out.2.1 j hj).1)
      have hs2 := hbe2.size
      have Hp1 := Lib.hid hp1
      have Hro := Lib.hid hro
      have HRb := Lib.hid hRb
      have Hbe2 := Lib.hid hbe2
      have hk1 : k + 1 ≤ 1048576 := by omega
      clear hp1 hp2 hp3 hro hRb hbe2 Hbox Hrow HR Hbe Hmi HC Hbq Hrow2 HR2 Hbx2
      generalize (mvR (plays0 (ms.take k)).2 mk).1 = code at *
      generalize (mvR (plays0 (ms.take k)).2 mk).2 = st at *
      go_wp2_with (at_builtin; refine wpList_append1 w2 (by rfl) _ _ 56 (by rfl) w.heap.size 25 i0 _ 8 Try.underlying56 hi0 hz0 hz1 hz2 rfl _ _ _ (by rfl) Hro.out (.int .i64 code) (by rfl) rfl hk1 (by decide) hs2 ?_; intro v3 w3 ho3 hg3 hb3)
      go_wp2
      go_roundg (n - (k + 1))
      case measure => have := Hgk.out; omega
      case rel =>
        have hg4 : w2.grownBy w3 (Value.slice Ac k cc).ownBlock := hg3
        obtain ⟨A3, c3, rfl, _⟩ := own_form ho3
        refine ⟨k + 1, cv2, A3, c3, rfl, by go_num, by omega, by omega, ?_, ?_, ?_, ?_⟩
        · rw [HT.out]
          exact Hp1.out.grown hg4 (fun e => row_box Hro.out Hp1.out.1 (by decide) e.symm) (row_row Hp1.out.2.1 Hro.out (by decide))
        · rw [HT.out, List.map_append]
          exact ho3
        · exact HRb.out.grown hg4 (fun e => row_box Hro.out HRb.out (by decide) e.symm)
        · exact Hbe2.out.grown hg4 hs2 fun j hj => (World.ownsRow.lt Hro.out j hj).1
    · have hnl : ¬ (k : Int) < (n : Int) := by omega
      have hke : k = ms.length := by omega
      have hte : ms.take k = ms := by rw [hke]; exact List.take_length
      obtain ⟨A2, c2, rfl, _⟩ := own_form hbox.2.1
      have b0 : wr.cell? ⟨w.heap.size + 1, 0, none⟩ = some (.slice A2 (plays0 (ms.take k)).2.1.length c2) := hbox.1.cell 0
      have b1 : wr.cell? ⟨w.heap.size + 1, 1, none⟩ = some (.int .i64 ((plays0 (ms.take k)).2.2 : Int)) := hbox.1.cell 1
      have r0 : wr.cell? ⟨w.heap.size, 0, none⟩ = some (.slice none 0 0) := hR.cell 0
      have r1 : wr.cell? ⟨w.heap.size, 1, none⟩ = some (.int .i64 0) := hR.cell 1
      have g0 := hR.frozen 0
      have g1 := hR.frozen 1
      have Hgk := Lib.hid hgk
      have Hbox := Lib.hid hbox
      have Hrow := Lib.hid hrow
      have HR := Lib.hid hR
      have Hbe := Lib.hid hbe
      have Hke := Lib.hid hke
      have Hte := Lib.hid hte
      clear hgk hbox hrow hR hbe hke hte hlt
      obtain ⟨pl, hpl⟩ : ∃ pl, plays0 (ms.take k) = pl := ⟨_, rfl⟩
      rw [hpl] at Hbox Hrow b0 b1
      have Hple := Lib.hid hpl
      clear hpl
      go_wp2_with fail
      go_region
      all_goals
        go_wp2_with fail
        have hB2 := (HR.out.set_ 0 (.slice A2 pl.2.1.length c2)).set_ 1 (.int .i64 (pl.2.2 : Int))
        have hon := ((On2.refl wr w.heap.size none).set_ (p := ⟨w.heap.size, 0, none⟩) (.inl rfl) (.slice A2 pl.2.1.length c2)).set_ (p := ⟨w.heap.size, 1, none⟩) (.inl rfl) (.int .i64 (pl.2.2 : Int))
        have ho1 := hon.row Hrow.out (row_box Hrow.out HR.out (by decide)) (by cases (Value.slice Ac k cc).ownBlock <;> simp)
        have ho2 := hon.row Hbox.out.2.1 (row_box Hbox.out.2.1 HR.out (by decide)) (by cases (Value.slice A2 pl.2.1.length c2).ownBlock <;> simp)
        have hbf := Hbe.out.trans (hon.toBelow (B := w.heap.size) Hbe.out.size (Nat.le_refl _) (by simp))
        refine ret_dk (g := w.heap.size) rfl rfl rfl hB2 rfl ?_
        have hpe := Hple.out
        subst hpe
        rw [Hte.out] at ho1 ho2 hbf ⊢
        rw [Hke.out] at ho1 ⊢
        exact ⟨Ac, cc, A2, c2, rfl, ho1, ho2, below_drewN hbf 1⟩

def PlayPost (ms : List Mv) (w : World) (e : Ending) (w' : World) : Prop :=
  ∃ (A : Option Addr) (c : Nat) (A2 : Option Addr) (c2 : Nat), e = .returned (.tuple #[.slice A ms.length c, .slice A2 (plays0 ms).2.1.length c2, .int .i64 0]) ∧
    w'.ownsRow w.heap.size 25 1 (.slice A ms.length c) ms.length ((plays0 ms).1.map (Value.int .i64)) ∧
    w'.ownsRow w.heap.size 5 1 (.slice A2 (plays0 ms).2.1.length c2) (plays0 ms).2.1.length ((plays0 ms).2.1.map bv) ∧ Below w.heap.size w w'
theorem play_long (A : Option Addr) (n c : Nat) (w : World) (hn : ¬ n ≤ 100) :
    Calls Try.prog 28 #[.slice A n c] w fun e w' => e = .returned (.tuple #[.slice none 0 0, .slice none 0 0, .int .i64 1]) ∧ w' = w := by
  have h1 : (100 : Int) < (n : Int) := by omega
  clear hn
  go_enter Try.func28, Try.ntmps28
  go_wp2_with fail
  go_ret3
  exact ⟨rfl, rfl⟩
theorem play_any (A : Option Addr) (n c B : Nat) (ms : List Mv) (w : World) (hl : MvsIn w B A n c ms) (hB : B ≤ w.heap.size) (hn : n ≤ 100) :
    Calls Try.prog 28 #[.slice A n c] w (PlayPost ms w) := by
  have HC := Lib.hid (run_any A n c B ms w hl hB hn)
  have h1 : ¬ (100 : Int) < (n : Int) := by omega
  clear hl hn
  go_enter Try.func28, Try.ntmps28
  go_wp2_with fail
  refine HC.out.mono ?_
  rintro e w2 ⟨A1, c1, A2, c2, rfl, ho1, ho2, hbe⟩
  have Ho1 := Lib.hid ho1
  have Ho2 := Lib.hid ho2
  have Hbe := Lib.hid hbe
  have hsz := hbe.size
  clear ho1 ho2 hbe HC
  obtain ⟨pl, hpl⟩ : ∃ pl, plays0 ms = pl := ⟨_, rfl⟩
  have Hpl := Lib.hid hpl
  rw [hpl] at Ho1 Ho2 ⊢
  clear hpl
  have hn1 := Blk.new w2 85 #[.slice A2 pl.2.1.length c2, .int .i64 (pl.2.2 : Int)]
  have q0 : (w2.alloc (.cells #[.slice A2 pl.2.1.length c2, .int .i64 (pl.2.2 : Int)] 85)).cell? ⟨w2.heap.size, 0, none⟩ = some (.slice A2 pl.2.1.length c2) := hn1.cell 0
  clear hn1
  go_wp2_with fail
  go_quiet (fail)
  go_wp2_with fail
  go_ret3
  have hp := Hpl.out
  subst hp
  exact ⟨A1, c1, A2, c2, rfl, own_belowS Ho1.out (below_drewN ((Below.refl w2.heap.size w2).alloc (Nat.le_refl _) _) _), own_belowS Ho2.out (below_drewN ((Below.refl w2.heap.size w2).alloc (Nat.le_refl _) _) _), below_drewN (Hbe.out.alloc hsz _) _⟩
end Go.Proofs.Ytploicbiapjfdaa
