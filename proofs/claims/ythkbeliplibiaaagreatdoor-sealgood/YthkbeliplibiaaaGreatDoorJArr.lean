/- json's reader: restOfArray, over what 'value' does. -/
import Derived.Test.YthkbeliplibiaaaGreatDoorBunA
import Derived.Test.YthkbeliplibiaaaGreatDoorJStr
import Derived.Test.YthkbeliplibiaaaGreatDoorBunB
namespace Go.Proofs.YthkbeliplibiaaaGreatDoor
set_option linter.unusedVariables false
set_option linter.unusedSimpArgs false
open Go.RowKit

theorem info_val : (Tryz.prog.info? 25).map (fun i => (i.zero, i.size, i.bytes)) = some (some (.agg #[.int .i64 0, .int .i64 0, .string ⟨#[]⟩, .slice none 0 0, .slice none 0 0]), 5, 80) := by kernel_rfl

/-- Values of the call's own (since w0), laid in a row that none of them lies in. -/
def PartsOwn (w0 w : World) (v : Value) (ps : List JV) : Prop :=
  ∃ xs, w.ownsRow w0.heap.size 25 5 v ps.length xs ∧ PInS w (fun b => newS w0 w b ∧ some b ≠ v.ownBlock) ps xs
theorem PartsOwn.nil (w0 w : World) : PartsOwn w0 w (.slice none 0 0) [] := ⟨[], World.ownsRow_nil _ _ _ _, by unfold PInS; rfl⟩
theorem PartsOwn.only {w0 w w' : World} {v : Value} {ps : List JV} {g : Nat} (h : PartsOwn w0 w v ps) (hg : w.grownBy w' (some g)) (hgB : g < w0.heap.size) : PartsOwn w0 w' v ps := by
  obtain ⟨xs, h1, h2⟩ := h
  refine ⟨xs, World.ownsRow.kept h1 hg ?_, ?_⟩
  · cases hv : v.ownBlock with
    | none => exact .inl rfl
    | some k => exact .inr (fun e => by injection e with e; have := (World.ownsRow.lt h1 k hv).1; omega)
  · refine PInS.mono (fun b hb => ⟨⟨hb.1.1, Nat.lt_of_lt_of_le hb.1.2 hg.size⟩, hb.2⟩) _ _ (PInS.kept (fun p hp => ?_) _ _ h2)
    exact World.cell?_of_block (hg.block p.block hp.1.2 (fun e => by injection e with e; have := hp.1.1; omega))
theorem PartsOwn.alloc {w0 w : World} {v : Value} {ps : List JV} (h : PartsOwn w0 w v ps) (o : Obj) : PartsOwn w0 (w.alloc o) v ps := by
  obtain ⟨xs, h1, h2⟩ := h
  refine ⟨xs, h1.alloc o, PInS.mono (fun b hb => ⟨⟨hb.1.1, by simp; have := hb.1.2; omega⟩, hb.2⟩) _ _ (PInS.kept (fun p hp => ?_) _ _ h2)⟩
  exact World.cell?_alloc_lt _ _ p hp.1.2
theorem PartsOwn.form {w0 w : World} {v : Value} {ps : List JV} (h : PartsOwn w0 w v ps) : ∃ A c, v = .slice A ps.length c := by
  obtain ⟨xs, h1, h2⟩ := h
  obtain ⟨A, c, h3, _⟩ := own_form h1
  exact ⟨A, c, h3⟩
theorem own_cap {w : World} {base e size n c : Nat} {A : Option Addr} {xs : List Value} (h : w.ownsRow base e size (.slice A n c) n xs) : n ≤ c := by
  rcases h.2 with ⟨hv, hn⟩ | ⟨g, cap, cur, hv, _, _, hnc, _⟩
  · omega
  · injection hv with _ _ hc; omega
/-- The array that has been built. -/
theorem PartsOwn.value {w0 w : World} {A : Option Addr} {c : Nat} {ps : List JV} (h : PartsOwn w0 w (.slice A ps.length c) ps) (hl : ps.length ≤ 1048576) :
    VInS w (newS w0 w) (.mk 6 0 [] [] ps) [.int .i64 6, .int .i64 0, str [], .slice none 0 0, .slice A ps.length c] := by
  obtain ⟨xs, h1, h2⟩ := h
  unfold VInS
  exact ⟨none, 0, A, c, xs, rfl, by omega, by omega, by simp, by simp, hl, by simp, by simp, own_cap h1, HoldsS.nil, (HoldsS.own h1), PInS.mono (fun b hb => hb.1) _ _ h2⟩

/-- An append of one value that has just been laid in a block of its own. -/
theorem wpList_putV {w : World} {ops : Array Oper} {rest : List Oper} {o : Oper} {a : Act} {Q : Exit → Act → World → Prop} (hgd : o.guard = none) (s x : Operand)
    (ho : o.op = .call { callee := .builtin .append, args := #[s, x], argTypes := #[23, 23] })
    (w0 : World) (v : Value) (ps : List JV) (jv : JV) (cs : List Value) (hs : a.eval s = v) (hown : PartsOwn w0 w v ps) (hv : VInS w (fun b => newS w0 w b ∧ some b ≠ v.ownBlock) jv cs)
    (ca : Array Value) (hca : ca = cs.toArray) (g : Nat) (hx : a.eval x = .slice (some ⟨g, 0, none⟩) 1 1) (hg : g = w.heap.size)
    (hn : ps.length + 1 ≤ 1048576) (hB : w0.heap.size ≤ w.heap.size)
    (h : ∀ v' w', PartsOwn w0 w' v' (ps ++ [jv]) → Below w0.heap.size w w' → w.heap.size ≤ w'.heap.size → wpList Tryz.prog ops Q rest (a.put o.dst v') w') :
    wpList Tryz.prog ops Q (o :: rest) a (w.alloc (.cells ca 25)) := by
  subst hca hg
  obtain ⟨i0, hi0, hz0, hz1, hz2⟩ := info_parts info_val
  obtain ⟨xs, h1, h2⟩ := hown
  have hcl := hv.len
  refine wpList_append_own_at (w.alloc (.cells cs.toArray 25)) hgd s x 23 ho w0.heap.size 25 i0 _ 5 80 Tryz.underlying23 hi0 hz0 hz1 hz2 rfl (by decide) v ps.length xs hs (h1.alloc _) ⟨w.heap.size, 0, none⟩ 1 1 cs hx (by omega) ?_ ?_ ?_ ?_ ?_ ?_
  · intro j u hu
    rw [plus_addr, Nat.zero_add, (Blk.new w 25 _).cell j]
    simpa using hu
  · intro u hu
    obtain ⟨k, n, t, Ak, nk, ck, Ap, np, cp, rfl⟩ := hv.form
    simp at hu
    rcases hu with rfl | rfl | rfl | rfl | rfl <;> rfl
  · unfold maxLen; omega
  · omega
  · simp; omega
  · intro v' w' k1 k2 _ k4
    have hsz : w.heap.size + 1 ≤ w'.heap.size := by have := k2.size; simpa using this
    have hkeep : ∀ p : Addr, (newS w0 w p.block ∧ some p.block ≠ v.ownBlock) → w'.cell? p = w.cell? p := by
      intro p hp
      have e1 : w'.cell? p = (w.alloc (.cells cs.toArray 25)).cell? p := World.cell?_of_block (k2.block p.block (by simp; have := hp.1.2; omega) hp.2)
      rw [e1, World.cell?_alloc_lt _ _ p hp.1.2]
    have hmono : ∀ b, (newS w0 w b ∧ some b ≠ v.ownBlock) → (newS w0 w' b ∧ some b ≠ v'.ownBlock) := by
      intro b hb
      refine ⟨⟨hb.1.1, by have := hb.1.2; omega⟩, fun e => ?_⟩
      rcases k4 with k4 | k4
      · exact hb.2 (e.trans k4)
      · rw [k4] at e; injection e with e; have := hb.1.2; simp at e; omega
    refine h v' w' ⟨xs ++ cs, by simpa using k1, ?_⟩ ?_ (by omega)
    · exact (PInS.mono hmono _ _ (PInS.kept hkeep _ _ h2)).snoc (VInS.mono hmono _ _ (VInS.kept hkeep _ _ hv))
    · exact ((Below.refl w0.heap.size w).alloc hB _).grown k2 (by simp; omega) fun k hk => (World.ownsRow.lt h1 k hk).1

/-! ### what 'value' leaves -/
theorem hasPre_cons {c : UInt8} {r : List UInt8} : Lib.hasPrefix (c :: r) [c] = true := (hasPrefix_one c (c :: r)).2 rfl
/-- Where a new value lies, beside the row. -/
theorem beside {w w1 w2 : World} {v : Value} {ps : List JV} (h : PartsOwn w w1 v ps) (hsz : w.heap.size ≤ w1.heap.size) : ∀ b, newS w1 w2 b → newS w w2 b ∧ some b ≠ v.ownBlock := by
  intro b hb
  refine ⟨⟨Nat.le_trans hsz hb.1, hb.2⟩, fun e => ?_⟩
  obtain ⟨xs, h1, _⟩ := h
  have := (World.ownsRow.lt h1 b e.symm).2
  have := hb.1
  omega

attribute [local go_sem high] str_mk
end Go.Proofs.YthkbeliplibiaaaGreatDoor
