/- The disk: the moves that the statements draw (Moves), and what is left behind them (moved). -/
import Derived.Test.YthkbeliplibiaaaDkRun
import Derived.Test.YthkbeliplibiaaaPicked
import Derived.Test.YthkbeliplibiaaaInts
import Derived.StillTailTactics
namespace Go.Proofs.Ythkbeliplibiaaa
set_option linter.unusedVariables false
set_option linter.unusedSimpArgs false
open Go.RowKit

theorem info_move : (Try.prog.info? 40).map (fun i => (i.zero, i.size, i.bytes)) = some (some (.agg #[.int .i64 0, .slice none 0 0, .int .i64 0]), 3, 40) := by kernel_rfl
/-- Moves of the call's own (since w0), laid in a row that none of them lies in. -/
def MvsOwn (w0 w : World) (v : Value) (ms : List Mv) : Prop :=
  ∃ xs, w.ownsRow w0.heap.size 40 3 v ms.length xs ∧ MsIn w (fun b => newS w0 w b ∧ some b ≠ v.ownBlock) ms xs
theorem MvsOwn.nil (w0 w : World) : MvsOwn w0 w (.slice none 0 0) [] := ⟨[], World.ownsRow_nil _ _ _ _, by unfold MsIn; rfl⟩
theorem MvsOwn.belowS {w0 w w' : World} {v : Value} {ms : List Mv} (h : MvsOwn w0 w v ms) (hb : Below w.heap.size w w') : MvsOwn w0 w' v ms := by
  obtain ⟨xs, h1, h2⟩ := h
  exact ⟨xs, own_belowS h1 hb, (h2.kept fun p hp => hb.cell hp.1.2).mono fun b hb' => ⟨⟨hb'.1.1, Nat.lt_of_lt_of_le hb'.1.2 hb.size⟩, hb'.2⟩⟩
theorem MvsOwn.form {w0 w : World} {v : Value} {ms : List Mv} (h : MvsOwn w0 w v ms) : ∃ A c, v = .slice A ms.length c := by
  obtain ⟨xs, h1, _⟩ := h
  obtain ⟨A, c, h3, _⟩ := own_form h1
  exact ⟨A, c, h3⟩
theorem MvsOwn.inn {w0 w : World} {A : Option Addr} {c : Nat} {ms : List Mv} (h : MvsOwn w0 w (.slice A ms.length c) ms) : MvsIn w w.heap.size A ms.length c ms := by
  obtain ⟨xs, h1, h2⟩ := h
  obtain ⟨A', c', he, hA⟩ := own_form h1
  injection he with e1 _ e3
  subst e1 e3
  refine ⟨rfl, ?_, fun h => (hA h).2, xs, Holds.own h1, h2.mono fun b hb => hb.1.2⟩
  rcases h1.2 with ⟨hv, hn⟩ | ⟨g, cap, cur, hv, _, _, hnc, _⟩
  · omega
  · injection hv with _ _ hc; omega
/-- An append of one move that has just been laid in a block of its own. -/
theorem wpList_putM {w : World} {ops : Array Oper} {rest : List Oper} {o : Oper} {a : Act} {Q : Exit → Act → World → Prop} (hgd : o.guard = none) (s x : Operand)
    (ho : o.op = .call { callee := .builtin .append, args := #[s, x], argTypes := #[22, 22] })
    (w0 : World) (v : Value) (ms : List Mv) (m : Mv) (cs : List Value) (hs : a.eval s = v) (hown : MvsOwn w0 w v ms) (hv : MIn w (fun b => newS w0 w b ∧ some b ≠ v.ownBlock) m cs)
    (ca : Array Value) (hca : ca = cs.toArray) (g : Nat) (hx : a.eval x = .slice (some ⟨g, 0, none⟩) 1 1) (hg : g = w.heap.size)
    (hn : ms.length + 1 ≤ 1048576) (hB : w0.heap.size ≤ w.heap.size)
    (h : ∀ v' w', MvsOwn w0 w' v' (ms ++ [m]) → Below w0.heap.size w w' → w.heap.size ≤ w'.heap.size → wpList Try.prog ops Q rest (a.put o.dst v') w') :
    wpList Try.prog ops Q (o :: rest) a (w.alloc (.cells ca 40)) := by
  subst hca hg
  obtain ⟨i0, hi0, hz0, hz1, hz2⟩ := info_parts info_move
  obtain ⟨xs, h1, h2⟩ := hown
  have hcl := hv.len
  refine wpList_append_own_at (w.alloc (.cells cs.toArray 40)) hgd s x 22 ho w0.heap.size 40 i0 _ 3 40 Try.underlying22 hi0 hz0 hz1 hz2 rfl (by decide) v ms.length xs hs (h1.alloc _) ⟨w.heap.size, 0, none⟩ 1 1 cs hx (by omega) ?_ hv.one ?_ ?_ ?_ ?_
  · intro j u hu
    rw [plus_addr, Nat.zero_add, (Blk.new w 40 _).cell j]
    simpa using hu
  · unfold maxLen; omega
  · omega
  · simp; omega
  · intro v' w' k1 k2 _ k4
    have hsz : w.heap.size + 1 ≤ w'.heap.size := by have := k2.size; simpa using this
    have hkeep : ∀ p : Addr, (newS w0 w p.block ∧ some p.block ≠ v.ownBlock) → w'.cell? p = w.cell? p := by
      intro p hp
      have e1 : w'.cell? p = (w.alloc (.cells cs.toArray 40)).cell? p := World.cell?_of_block (k2.block p.block (by simp; have := hp.1.2; omega) hp.2)
      rw [e1, World.cell?_alloc_lt _ _ p hp.1.2]
    have hmono : ∀ b, (newS w0 w b ∧ some b ≠ v.ownBlock) → (newS w0 w' b ∧ some b ≠ v'.ownBlock) := by
      intro b hb
      refine ⟨⟨hb.1.1, by have := hb.1.2; omega⟩, fun e => ?_⟩
      rcases k4 with k4 | k4
      · exact hb.2 (e.trans k4)
      · rw [k4] at e; injection e with e; have := hb.1.2; simp at e; omega
    refine h v' w' ⟨xs ++ cs, by simpa using k1, ?_⟩ ?_ (by omega)
    · exact ((h2.kept hkeep).mono hmono).snoc ((hv.kept hkeep).mono hmono)
    · exact ((Below.refl w0.heap.size w).alloc hB _).grown k2 (by simp; omega) fun k hk => (World.ownsRow.lt h1 k hk).1

/-- A list of one move that has just been laid. -/
theorem mvs_one {W : World} {m : Mv} {cs : List Value} (h : MIn W (fun b => b < W.heap.size) m cs) : MvsIn (W.alloc (.cells cs.toArray 40)) (W.heap.size + 1) (some ⟨W.heap.size, 0, none⟩) 1 1 [m] := by
  refine ⟨rfl, Nat.le_refl _, fun h => (by cases h), cs, ⟨by rw [h.len], fun _ => ⟨W.heap.size, 0, rfl, by omega, fun j u hu => ?_⟩⟩, ?_⟩
  · rw [Nat.zero_add, (Blk.new W 40 _).cell j]
    simpa using hu
  · unfold MsIn
    exact ⟨cs, [], by simp, (h.kept fun p hp => World.cell?_alloc_lt _ _ p hp).mono (fun b hb => Nat.lt_succ_of_lt hb), by unfold MsIn; rfl⟩
/-! ### moved -/
theorem plays_seven : plays0 [⟨1, [7], 0⟩] = ([0], ([7], 0)) := by
  simp [plays0, plays, mvR, disk0]
def MovedPost (ms : List Mv) (w : World) (e : Ending) (w' : World) : Prop :=
  ∃ (A : Option Addr) (c : Nat), e = .returned (.tuple #[.slice A (plays0 ms).2.1.length c, .bool true]) ∧
    w'.ownsRow w.heap.size 5 1 (.slice A (plays0 ms).2.1.length c) (plays0 ms).2.1.length ((plays0 ms).2.1.map bv) ∧ Below w.heap.size w w'
theorem moved_any (A : Option Addr) (n c B : Nat) (ms : List Mv) (w : World) (hl : MvsIn w B A n c ms) (hB : B ≤ w.heap.size) (hn : n ≤ 100) :
    Calls Try.prog 16 #[.slice A n c] w (MovedPost ms w) := by
  have HC := Lib.hid (play_any A n c B ms w hl hB hn)
  clear hl hn
  go_enter Try.func16, Try.ntmps16
  go_wp2_with fail
  refine HC.out.mono ?_
  rintro e w2 ⟨A1, c1, A2, c2, rfl, ho1, ho2, hbe⟩
  have Ho2 := Lib.hid ho2
  have Hbe := Lib.hid hbe
  have hsz := hbe.size
  clear ho1 ho2 hbe HC
  obtain ⟨pl, hpl⟩ : ∃ pl, plays0 ms = pl := ⟨_, rfl⟩
  have Hpl := Lib.hid hpl
  rw [hpl] at Ho2 ⊢
  clear hpl
  have hin : MIn (w2.alloc (.cells #[.int .u8 7] 5)) (fun b => b < (w2.alloc (.cells #[.int .u8 7] 5)).heap.size) ⟨1, [7], 0⟩ [.int .i64 1, .slice (some ⟨w2.heap.size, 0, none⟩) 1 1, .int .i64 0] := by
    refine ⟨some ⟨w2.heap.size, 0, none⟩, 1, rfl, by simp, by simp, fun h => (by cases h), by simp, by simp, by simp, fun _ => ⟨w2.heap.size, 0, rfl, by simp, fun j u hu => ?_⟩⟩
    rw [Nat.zero_add, (Blk.new w2 5 _).cell j]
    simpa [bv] using hu
  have hone := mvs_one hin
  have HP := Lib.hid (play_any (some ⟨w2.heap.size + 1, 0, none⟩) 1 1 _ _ _ (by simpa using hone) (by simp) (by omega))
  have hbe3 : Below w2.heap.size w2 ((w2.alloc (.cells #[.int .u8 7] 5)).alloc (.cells #[.int .i64 1, .slice (some ⟨w2.heap.size, 0, none⟩) 1 1, .int .i64 0] 40)) := ((Below.refl _ _).alloc (Nat.le_refl _) _).alloc (by simp) _
  clear hin hone
  go_wp2_with fail
  generalize hwq : (w2.alloc (.cells #[.int .u8 7] 5)).alloc (.cells #[.int .i64 1, .slice (some ⟨w2.heap.size, 0, none⟩) 1 1, .int .i64 0] 40) = wq at *
  refine HP.out.mono ?_
  rintro e w4 ⟨A3, c3, A4, c4, rfl, ho3, ho4, hbe4⟩
  rw [plays_seven] at ho3 ho4
  rw [plays_seven]
  obtain ⟨b4, off4, hl4, rfl, hb4, q4⟩ := (Holds.own ho4).byte (k := 0) (by decide)
  have q5 : w4.cell? ⟨b4, off4, none⟩ = some (.int .u8 7) := q4
  have hbf : Below w2.heap.size w2 w4 := hbe3.trans (hbe4.mono hbe3.size)
  have Hbf := Lib.hid (Hbe.out.trans (hbf.mono hsz))
  have Ho4 := Lib.hid (own_belowS Ho2.out hbf)
  clear ho3 ho4 hbe4 hbe3 hbf Hbe Ho2 HP q4 hwq
  go_wp2_with fail
  go_quiet (fail)
  go_wp2_with fail
  go_ret2
  have hp := Hpl.out
  subst hp
  exact ⟨A2, c2, rfl, own_belowS Ho4.out (below_drewN (Below.refl _ _) _), below_drewN Hbf.out _⟩
end Go.Proofs.Ythkbeliplibiaaa
