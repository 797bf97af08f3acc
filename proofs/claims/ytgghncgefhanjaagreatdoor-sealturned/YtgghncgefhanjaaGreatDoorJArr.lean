/- json's reader: restOfArray, over what 'value' does. -/
import Derived.Test.YtgghncgefhanjaaGreatDoorBunA
import Derived.Test.YtgghncgefhanjaaGreatDoorJStr
import Derived.Test.YtgghncgefhanjaaGreatDoorBunB
namespace Go.Proofs.YtgghncgefhanjaaGreatDoor
set_option linter.unusedVariables false
set_option linter.unusedSimpArgs false
open Go.RowKit

theorem info_val : (Tryz.prog.info? 25).map (fun i => (i.zero, i.size, i.bytes)) = some (some (.agg #[.int .i64 0, .int .i64 0, .string ⟨#[]⟩, .slice none 0 0, .slice none 0 0]), 5, 80) := by kernel_rfl

/-- Values of the call's own (since w0), laid in a row that none of them lies in. -/
def PartsOwn (w0 w : World) (v : Value) (ps : List JV) : Prop :=
  ∃ xs, w.ownsRow w0.heap.size 25 5 v ps.length xs ∧ PInS w (fun b => newS w0 w b ∧ some b ≠ v.ownBlock) ps xs
theorem PartsOwn.nil (w0 w : World) : PartsOwn w0 w (.slice none 0 0) [] := ⟨[], World.ownsRow_nil _ _ _ _, by unfold PInS; rfl⟩
theorem PartsOwn.only {w0 w w' : World} {v : Value} {ps : List JV} {g : Nat} (h : PartsOwn w0 w v ps) (hg : w.grownBy w' (some g)) (hgB : g < w0.heap.size) : PartsOwn w0 w' v ps := by
  obtain ⟨xs, h1, h2⟩ := h
  refine ⟨xs, World.ownsRow.kept h1 hg ?_, ?_⟩
  · cases hv : v.ownBlock with
    | none => exact .inl rfl
    | some k => exact .inr (fun e => by injection e with e; have := (World.ownsRow.lt h1 k hv).1; omega)
  · refine PInS.mono (fun b hb => ⟨⟨hb.1.1, Nat.lt_of_lt_of_le hb.1.2 hg.size⟩, hb.2⟩) _ _ (PInS.kept (fun p hp => ?_) _ _ h2)
    exact World.cell?_of_block (hg.block p.block hp.1.2 (fun e => by injection e with e; have := hp.1.1; omega))
theorem PartsOwn.alloc {w0 w : World} {v : Value} {ps : List JV} (h : PartsOwn w0 w v ps) (o : Obj) : PartsOwn w0 (w.alloc o) v ps := by
  obtain ⟨xs, h1, h2⟩ := h
  refine ⟨xs, h1.alloc o, PInS.mono (fun b hb => ⟨⟨hb.1.1, by simp; have := hb.1.2; omega⟩, hb.2⟩) _ _ (PInS.kept (fun p hp => ?_) _ _ h2)⟩
  exact World.cell?_alloc_lt _ _ p hp.1.2
theorem PartsOwn.form {w0 w : World} {v : Value} {ps : List JV} (h : PartsOwn w0 w v ps) : ∃ A c, v = .slice A ps.length c := by
  obtain ⟨xs, h1, h2⟩ := h
  obtain ⟨A, c, h3, _⟩ := own_form h1
  exact ⟨A, c, h3⟩
theorem own_cap {w : World} {base e size n c : Nat} {A : Option Addr} {xs : List Value} (h : w.ownsRow base e size (.slice A n c) n xs) : n ≤ c := by
  rcases h.2 with ⟨hv, hn⟩ | ⟨g, cap, cur, hv, _, _, hnc, _⟩
  · omega
  · injection hv with _ _ hc; omega
/-- The array that has been built. -/
theorem PartsOwn.value {w0 w : World} {A : Option Addr} {c : Nat} {ps : List JV} (h : PartsOwn w0 w (.slice A ps.length c) ps) (hl : ps.length ≤ 1048576) :
    VInS w (newS w0 w) (.mk 6 0 [] [] ps) [.int .i64 6, .int .i64 0, str [], .slice none 0 0, .slice A ps.length c] := by
  obtain ⟨xs, h1, h2⟩ := h
  unfold VInS
  exact ⟨none, 0, A, c, xs, rfl, by omega, by omega, by simp, by simp, hl, by simp, by simp, own_cap h1, HoldsS.nil, (HoldsS.own h1), PInS.mono (fun b hb => hb.1) _ _ h2⟩

/-- An append of one value that has just been laid in a block of its own. -/
theorem wpList_putV {w : World} {ops : Array Oper} {rest : List Oper} {o : Oper} {a : Act} {Q : Exit → Act → World → Prop} (hgd : o.guard = none) (s x : Operand)
    (ho : o.op = .call { callee := .builtin .append, args := #[s, x], argTypes := #[23, 23] })
    (w0 : World) (v : Value) (ps : List JV) (jv : JV) (cs : List Value) (hs : a.eval s = v) (hown : PartsOwn w0 w v ps) (hv : VInS w (fun b => newS w0 w b ∧ some b ≠ v.ownBlock) jv cs)
    (ca : Array Value) (hca : ca = cs.toArray) (g : Nat) (hx : a.eval x = .slice (some ⟨g, 0, none⟩) 1 1) (hg : g = w.heap.size)
    (hn : ps.length + 1 ≤ 1048576) (hB : w0.heap.size ≤ w.heap.size)
    (h : ∀ v' w', PartsOwn w0 w' v' (ps ++ [jv]) → Below w0.heap.size w w' → w.heap.size ≤ w'.heap.size → wpList Tryz.prog ops Q rest (a.put o.dst v') w') :
    wpList Tryz.prog ops Q (o :: rest) a (w.alloc (.cells ca 25)) := by
  subst hca hg
  obtain ⟨i0, hi0, hz0, hz1, hz2⟩ := info_parts info_val
  obtain ⟨xs, h1, h2⟩ := hown
  have hcl := hv.len
  refine wpList_append_own_at (w.alloc (.cells cs.toArray 25)) hgd s x 23 ho w0.heap.size 25 i0 _ 5 80 Tryz.underlying23 hi0 hz0 hz1 hz2 rfl (by decide) v ps.length xs hs (h1.alloc _) ⟨w.heap.size, 0, none⟩ 1 1 cs hx (by omega) ?_ ?_ ?_ ?_ ?_ ?_
  · intro j u hu
    rw [plus_addr, Nat.zero_add, (Blk.new w 25 _).cell j]
    simpa using hu
  · intro u hu
    obtain ⟨k, n, t, Ak, nk, ck, Ap, np, cp, rfl⟩ := hv.form
    simp at hu
    rcases hu with rfl | rfl | rfl | rfl | rfl <;> rfl
  · unfold maxLen; omega
  · omega
  · simp; omega
  · intro v' w' k1 k2 _ k4
    have hsz : w.heap.size + 1 ≤ w'.heap.size := by have := k2.size; simpa using this
    have hkeep : ∀ p : Addr, (newS w0 w p.block ∧ some p.block ≠ v.ownBlock) → w'.cell? p = w.cell? p := by
      intro p hp
      have e1 : w'.cell? p = (w.alloc (.cells cs.toArray 25)).cell? p := World.cell?_of_block (k2.block p.block (by simp; have := hp.1.2; omega) hp.2)
      rw [e1, World.cell?_alloc_lt _ _ p hp.1.2]
    have hmono : ∀ b, (newS w0 w b ∧ some b ≠ v.ownBlock) → (newS w0 w' b ∧ some b ≠ v'.ownBlock) := by
      intro b hb
      refine ⟨⟨hb.1.1, by have := hb.1.2; omega⟩, fun e => ?_⟩
      rcases k4 with k4 | k4
      · exact hb.2 (e.trans k4)
      · rw [k4] at e; injection e with e; have := hb.1.2; simp at e; omega
    refine h v' w' ⟨xs ++ cs, by simpa using k1, ?_⟩ ?_ (by omega)
    · exact (PInS.mono hmono _ _ (PInS.kept hkeep _ _ h2)).snoc (VInS.mono hmono _ _ (VInS.kept hkeep _ _ hv))
    · exact ((Below.refl w0.heap.size w).alloc hB _).grown k2 (by simp; omega) fun k hk => (World.ownsRow.lt h1 k hk).1

/-! ### what 'value' leaves -/
def ValPost (g : Nat) (s : List UInt8) (o : Option (JV × List UInt8)) (w : World) (e : Ending) (w' : World) : Prop :=
  (∃ v r cs, o = some (v, r) ∧ e = .returned (.tuple #[.agg cs.toArray, .bool true]) ∧ VInS w' (newS w w') v cs ∧ Rd w' g s r ∧ w.grownBy w' (some g)) ∨
  (o = none ∧ ∃ k n t Ak nk ck Ap np cp r, e = .returned (.tuple #[.agg #[.int .i64 k, .int .i64 n, str t, .slice Ak nk ck, .slice Ap np cp], .bool false]) ∧ Rd w' g s r ∧ w.grownBy w' (some g))
/-- At the texts of P. -/
def ValOk (P : List UInt8 → Prop) (n : Nat) : Prop := ∀ (g : Nat) (s r : List UInt8) (w : World), P s → Rd w g s r → s.length ≤ 1048000 → r.length < n →
  Calls Tryz.prog 79 #[.pointer (some ⟨g, 0, none⟩)] w (ValPost g s (pv n r) w)

def ArrPost (g : Nat) (s : List UInt8) (o : Option (List JV × List UInt8)) (w : World) (e : Ending) (w' : World) : Prop :=
  (∃ ps r A c, o = some (ps, r) ∧ e = .returned (.tuple #[.slice A ps.length c, .bool true]) ∧ PartsOwn w w' (.slice A ps.length c) ps ∧ ps.length ≤ s.length ∧ Rd w' g s r ∧ w.grownBy w' (some g)) ∨
  (o = none ∧ ∃ r, e = .returned (.tuple #[.slice none 0 0, .bool false]) ∧ Rd w' g s r ∧ w.grownBy w' (some g))
def ReadArrR (g n : Nat) (s : List UInt8) (T : Option (List JV × List UInt8)) (w : World) (gk : Nat) (b : Value) (wr : World) : Prop :=
  ∃ (r : List UInt8) (ps : List JV), gk = r.length ∧ r.length < n ∧ Rd wr g s r ∧ PartsOwn w wr b ps ∧ ps.length + r.length ≤ s.length ∧ w.grownBy wr (some g) ∧ (arrL (pv n) (r.length + 1) r).map (fun z => (ps ++ z.1, z.2)) = T

theorem hasPre_cons {c : UInt8} {r : List UInt8} : Lib.hasPrefix (c :: r) [c] = true := (hasPrefix_one c (c :: r)).2 rfl
/-- Where a new value lies, beside the row. -/
theorem beside {w w1 w2 : World} {v : Value} {ps : List JV} (h : PartsOwn w w1 v ps) (hsz : w.heap.size ≤ w1.heap.size) : ∀ b, newS w1 w2 b → newS w w2 b ∧ some b ≠ v.ownBlock := by
  intro b hb
  refine ⟨⟨Nat.le_trans hsz hb.1, hb.2⟩, fun e => ?_⟩
  obtain ⟨xs, h1, _⟩ := h
  have := (World.ownsRow.lt h1 b e.symm).2
  have := hb.1
  omega

attribute [local go_sem high] str_mk
set_option maxRecDepth 100000 in
set_option maxHeartbeats 4000000 in
theorem array_read {P : List UInt8 → Prop} (n : Nat) (ih : ValOk P n) (g : Nat) (s r : List UInt8) (w : World) (hP : P s) (hr : Rd w g s r) (hs : s.length ≤ 1048000) (hrn : r.length < n) :
    Calls Tryz.prog 107 #[.pointer (some ⟨g, 0, none⟩)] w (ArrPost g s (arrR n r) w) := by
  have hg := hr.lt
  have hrl := hr.le
  have hsk := skip_len r
  by_cases h93 : (skip r).head? = some 93
  · obtain ⟨r2, h93⟩ := head_cons h93
    have Hs := Lib.hid (arrR_end (n := n) h93)
    have H93 := Lib.hid h93
    clear h93
    go_enter Tryz.func107, Tryz.ntmps107
    go_wp2_with fail
    refine (mark_yes g s [93] r r2 _ hr H93.out (by omega)).mono ?_
    rintro e w2 ⟨rfl, hr2, hon2⟩
    go_wp2_with fail
    go_ret2
    exact .inl ⟨[], skip r2, none, 0, Hs.out, rfl, PartsOwn.nil _ _, by simp, hr2, hon2⟩
  have Hs := Lib.hid (arrR_more (n := n) h93)
  have hno := hasPrefix_not h93
  generalize hT : arrR n r = T
  rw [hT] at Hs
  have HT := Lib.hid (show (arrL (pv n) ((skip r).length + 1) (skip r)).map (fun z => ([] ++ z.1, z.2)) = T by rw [← Hs.out]; simp)
  clear h93 Hs hT
  go_enter Tryz.func107, Tryz.ntmps107
  go_wp2_with fail
  refine (mark_no g s [93] r _ hr hno (by omega)).mono ?_
  rintro e w1 ⟨rfl, hr1, hon1⟩
  go_wp2_with fail
  go_loopg [4] (skip r).length (ReadArrR g n s T w)
  case atStart => exact ⟨skip r, [], rfl, by omega, hr1, PartsOwn.nil _ _, by simp; omega, hon1, HT.out⟩
  case round =>
    clear HT hno hsk hrl
    obtain ⟨r', ps, hgk, hrn', hr', hown, hlen, hon, hT⟩ := hrel
    have Hgk := Lib.hid hgk
    have HT := Lib.hid hT
    clear hgk hT hr1 hon1
    have hsz : w.heap.size ≤ wr.heap.size := hon.size
    go_wp2_with fail
    refine (ih g s r' wr hP hr' hs hrn').mono ?_
    intro e w2 hv
    rcases hv with ⟨v, r2, cs, hpv, rfl, hvin, hr2, hon2⟩ | ⟨hpv, k, m, t, Ak, nk, ck, Ap, np, cp, r2, rfl, hr2, hon2⟩
    · obtain ⟨k, m, t, Ak, nk, ck, Ap, np, cp, rfl⟩ := hvin.form
      have hlt := pv_shrinks n _ _ _ hpv
      have hown2 := hown.only hon2 hg
      have hbes := beside hown hsz (w2 := w2)
      have hvin2 := VInS.mono hbes _ _ hvin
      have Hpv := Lib.hid hpv
      have hsz2 : w.heap.size ≤ w2.heap.size := Nat.le_trans hsz hon2.size
      have hon02 := only_trans hon hon2
      clear hpv hvin hbes hown hr'
      generalize hbx : (Obj.cells #[.int .i64 k, .int .i64 m, str t, .slice Ak nk ck, .slice Ap np cp] 25) = box
      have hvin3 : VInS (w2.alloc box) (fun b => newS w (w2.alloc box) b ∧ some b ≠ u4.ownBlock) v [.int .i64 k, .int .i64 m, str t, .slice Ak nk ck, .slice Ap np cp] :=
        VInS.mono (fun b hb => ⟨⟨hb.1.1, by simp; have := hb.1.2; omega⟩, hb.2⟩) _ _ (VInS.kept (fun p hp => World.cell?_alloc_lt _ _ p hp.1.2) _ _ hvin2)
      have hown3 := hown2.alloc box
      have hr3 := hr2.alloc box
      have hsz3 : w.heap.size ≤ (w2.alloc box).heap.size := by simp; omega
      have hon03 := only_alloc hon02 box
      subst hbx
      have Hvin3 := Lib.hid hvin3
      have Hown3 := Lib.hid hown3
      have Hr3 := Lib.hid hr3
      have Hsz3 := Lib.hid hsz3
      have Hon03 := Lib.hid hon03
      clear hvin2 hvin3 hown2 hown3 hr2 hr3 hsz3 hon02 hon03 hon2
      go_wp2_with (at_builtin
                   refine wpList_putV rfl _ _ rfl w u4 ps v _ (by rfl) Hown3.out Hvin3.out _ rfl _ (by rfl) (by simp) (by omega) Hsz3.out ?_
                   intro v4 w4 hown4 hbl4 hsz4)
      have hr4 : Rd w4 g s r2 := by
        obtain ⟨p, e1, e2, e3⟩ := Hr3.out
        exact ⟨p, e1, e2, e3.below hbl4 hg⟩
      have hon4 : w.grownBy w4 (some g) := only_below_then Hon03.out hbl4
      clear Hown3 Hvin3 Hr3 Hsz3 Hon03 hbl4 hsz4
      by_cases h1 : (skip r2).head? = some 93
      · obtain ⟨r3, h1⟩ := head_cons h1
        have HT2 := Lib.hid (show T = some (ps ++ [v], skip r3) by rw [← HT.out, arrL_end Hpv.out h1]; rfl)
        have H1 := Lib.hid h1
        clear h1
        refine (mark_yes g s [93] r2 r3 _ hr4 H1.out (by omega)).mono ?_
        rintro e w5 ⟨rfl, hr5, hon5⟩
        have hown5 := hown4.only hon5 hg
        obtain ⟨A5, c5, rfl⟩ := hown5.form
        go_wp2_with fail
        go_ret2
        exact .inl ⟨ps ++ [v], skip r3, A5, c5, HT2.out, by rw [List.length_append]; rfl, hown5, by simp; omega, hr5, only_trans hon4 hon5⟩
      have hno1 := hasPrefix_not h1
      by_cases h2 : (skip r2).head? = some 44
      · obtain ⟨r3, h2⟩ := head_cons h2
        have hl3 := skip_cons_len h2
        have HT2 := Lib.hid (show (arrL (pv n) ((skip r3).length + 1) (skip r3)).map (fun z => (ps ++ [v] ++ z.1, z.2)) = T by
          rw [← HT.out, arrL_more Hpv.out h2, arrL_fuel (pv_shrinks n) (skip r3).length (skip r3) r'.length (Nat.le_refl _) (by omega)]
          simp [Option.map_map, Function.comp_def])
        have H2 := Lib.hid h2
        clear h2 h1
        refine (mark_no g s [93] r2 _ hr4 hno1 (by omega)).mono ?_
        rintro e w5 ⟨rfl, hr5, hon5⟩
        go_wp2_with fail
        refine (mark_yes g s [44] _ r3 _ hr5 (by rw [skip_skip]; exact H2.out) (by omega)).mono ?_
        rintro e w6 ⟨rfl, hr6, hon6⟩
        have hon56 := only_trans hon5 hon6
        go_wp2_with fail
        go_roundg (skip r3).length
        case measure => have := Hgk.out; omega
        case rel => exact ⟨skip r3, ps ++ [v], rfl, by omega, hr6, hown4.only hon56 hg, by simp; omega, only_trans hon4 hon56, HT2.out⟩
      · have HT2 := Lib.hid (show T = none by rw [← HT.out, arrL_bad Hpv.out h1 h2]; rfl)
        have hno2 : Lib.hasPrefix (skip (skip r2)) [44] = false := by rw [skip_skip]; exact hasPrefix_not h2
        clear h1 h2
        refine (mark_no g s [93] r2 _ hr4 hno1 (by omega)).mono ?_
        rintro e w5 ⟨rfl, hr5, hon5⟩
        go_wp2_with fail
        refine (mark_no g s [44] _ _ hr5 hno2 (by omega)).mono ?_
        rintro e w6 ⟨rfl, hr6, hon6⟩
        go_wp2_with fail
        go_ret2
        exact .inr ⟨HT2.out, _, rfl, hr6, only_trans hon4 (only_trans hon5 hon6)⟩
    · have HT2 := Lib.hid (show T = none by rw [← HT.out, arrL_none hpv]; rfl)
      clear hpv
      go_wp2_with fail
      go_ret2
      exact .inr ⟨HT2.out, r2, rfl, hr2.alloc _, only_alloc (only_trans hon hon2) _⟩
end Go.Proofs.YtgghncgefhanjaaGreatDoor
