/- json's reader: restOfCode, restOfEscape, restOfString. -/
import Derived.Test.YtgghncgefhanjaaGreatDoorJRd
namespace Go.Proofs.YtgghncgefhanjaaGreatDoor
set_option linter.unusedVariables false
set_option linter.unusedSimpArgs false
open Go.RowKit

/-- What a reader leaves: what is read, or that there is no such thing. -/
def OPost {α : Type} (g : Nat) (s : List UInt8) (yes : α → Value) (no : Value) (o : Option (α × List UInt8)) (w : World) (e : Ending) (w' : World) : Prop :=
  (∃ a r, o = some (a, r) ∧ RPost g s (yes a) r w e w') ∨ (o = none ∧ ∃ r, RPost g s no r w e w')
theorem OPost.some {α : Type} {g : Nat} {s : List UInt8} {yes : α → Value} {no : Value} {o : Option (α × List UInt8)} {w w' : World} {e : Ending} {a : α} {r : List UInt8} (h : o = .some (a, r)) (hr : RPost g s (yes a) r w e w') :
    OPost g s yes no o w e w' := .inl ⟨a, r, h, hr⟩
theorem OPost.none {α : Type} {g : Nat} {s : List UInt8} {yes : α → Value} {no : Value} {o : Option (α × List UInt8)} {w w' : World} {e : Ending} {r : List UInt8} (h : o = .none) (hr : RPost g s no r w e w') :
    OPost g s yes no o w e w' := .inr ⟨h, r, hr⟩
theorem OPost.cases {α : Type} {g : Nat} {s : List UInt8} {yes : α → Value} {no : Value} {o : Option (α × List UInt8)} {w w' : World} {e : Ending} (h : OPost g s yes no o w e w') :
    (∃ a r, o = .some (a, r) ∧ RPost g s (yes a) r w e w') ∨ (o = .none ∧ ∃ r, RPost g s no r w e w') := h

def byteY (x : UInt8) : Value := .tuple #[.int .u8 (x.toNat : Int), .bool true]
def byteN : Value := .tuple #[.int .u8 0, .bool false]

def CodeR (g : Nat) (s : List UInt8) (T : Option (Int × List UInt8)) (w : World) (gk : Nat) (n i : Value) (wr : World) : Prop :=
  ∃ (j : Nat) (m : Int) (r : List UInt8), j ≤ 4 ∧ gk = 4 - j ∧ i = .int .i64 (j : Int) ∧ n = .int .i64 m ∧ 0 ≤ m ∧ m < 16 ^ j ∧ Rd wr g s r ∧ codeGo (4 - j) m r = T ∧ w.grownBy wr (some g)

theorem codeR_none {r : List UInt8} (h : codeGo 4 0 r = none) : codeR r = none := by simp [codeR, h]
theorem codeR_some {r q : List UInt8} {n : Int} (h : codeGo 4 0 r = some (n, q)) : codeR r = if n < 128 then some (UInt8.ofNat n.toNat, q) else none := by simp [codeR, h]
theorem max_hex (c : UInt8) : (if Lib.indexByte hexL c < Lib.indexByte hexU c then Lib.indexByte hexU c else Lib.indexByte hexL c) = hexV c := by
  unfold hexV; split <;> omega

attribute [local go_sem high] str_mk
set_option maxRecDepth 100000 in
set_option maxHeartbeats 1000000 in
theorem code_any (g : Nat) (s r : List UInt8) (w : World) (hr : Rd w g s r) (hs : s.length ≤ 1048576) :
    Calls Tryz.prog 136 #[.pointer (some ⟨g, 0, none⟩)] w (OPost g s byteY byteN (codeR r) w) := by
  generalize hT : codeGo 4 0 r = T
  have HT := Lib.hid hT
  go_enter Tryz.func136, Tryz.ntmps136
  go_wp2_with fail
  go_loopg [4, 8] 4 (CodeR g s T w)
  case atStart => exact ⟨0, 0, r, by omega, rfl, rfl, rfl, by omega, by decide, hr, hT, World.grownBy.refl _ _⟩
  case round =>
    obtain ⟨j, m, r1, hj4, hgk, rfl, rfl, hm0, hm1, hr1, hgo, hon⟩ := hrel
    have Hgk := Lib.hid hgk
    have Hgo := Lib.hid hgo
    have Hm1 := Lib.hid hm1
    have hm16 : m < 65536 := by
      have : (16 : Int) ^ j ≤ 16 ^ 4 := by
        rcases (by omega : j = 0 ∨ j = 1 ∨ j = 2 ∨ j = 3 ∨ j = 4) with rfl | rfl | rfl | rfl | rfl <;> decide
      omega
    clear hgo hT hgk hm1
    by_cases hj : j < 4
    · obtain ⟨k, hk⟩ : ∃ k, 4 - j = k + 1 := ⟨3 - j, by omega⟩
      rw [hk] at Hgo
      have Hk := Lib.hid hk
      clear hk
      cases r1 with
      | nil =>
        have Hn := Lib.hid (codeR_none (HT.out.trans (show T = none by rw [← Hgo.out]; rfl)))
        go_wp2_with fail
        refine (next_end g s _ hr1 hs).mono ?_
        rintro e w2 ⟨rfl, hr2, hon2⟩
        go_wp2_with ((go_at_call 77; refine (idx_any _ 0 _).mono ?_; rintro e w3 ⟨rfl, rfl⟩))
        go_ret2
        exact .none Hn.out ⟨rfl, hr2, only_trans hon hon2⟩
      | cons c r2 =>
        have hb := hexV_bd c
        have hmx := max_hex c
        have Hg2 := Lib.hid (show (if hexV c < 0 then none else codeGo k (16 * m + hexV c) r2) = T by rw [← Hgo.out, codeGo])
        simp only [hexL, hexU] at hmx
        clear Hgo
        go_wp2_with fail
        refine (next_cons g s c r2 _ hr1 hs).mono ?_
        rintro e w2 ⟨rfl, hr2, hon2⟩
        by_cases hneg : hexV c < 0
        · have Hn := Lib.hid (codeR_none (HT.out.trans (show T = none by rw [← Hg2.out, if_pos hneg])))
          go_wp2_with ((go_at_call 77; refine (idx_any _ c _).mono ?_; rintro e w3 ⟨rfl, rfl⟩))
          go_ret2
          exact .none Hn.out ⟨rfl, hr2, only_trans hon hon2⟩
        · have Hg3 := Lib.hid (show codeGo k (16 * m + hexV c) r2 = T by rw [← Hg2.out, if_neg hneg])
          clear Hg2
          go_wp2_with ((go_at_call 77; refine (idx_any _ c _).mono ?_; rintro e w3 ⟨rfl, rfl⟩))
          go_roundg k
          case measure => have := Hgk.out; have := Hk.out; omega
          case rel =>
            refine ⟨j + 1, 16 * m + hexV c, r2, by omega, by have := Hk.out; omega, by go_num, rfl, by omega, ?_, hr2, ?_, only_trans hon hon2⟩
            · have h1 := Hm1.out
              rw [Int.pow_succ]; omega
            · rw [show 4 - (j + 1) = k by have := Hk.out; omega]; exact Hg3.out
    · have hj' : j = 4 := by omega
      subst hj'
      have Hc := Lib.hid (codeR_some (HT.out.trans Hgo.out.symm))
      by_cases h128 : m < 128
      · have hcv : m % 256 = m := by omega
        have Hrv := Lib.hid (show (((UInt8.ofNat m.toNat).toNat : Nat) : Int) = m by simp; omega)
        go_wp2_with fail
        go_ret2
        refine .some (a := UInt8.ofNat m.toNat) (by rw [Hc.out, if_pos h128]) ⟨?_, hr1, hon⟩
        unfold byteY
        rw [Hrv.out]
        rfl
      · go_wp2_with fail
        go_ret2
        exact .none (by rw [Hc.out, if_neg (by omega)]) ⟨rfl, hr1, hon⟩

theorem unlet_at (c : UInt8) : (Lib.indexByte letL c < 0 ∧ unlet c = none) ∨ ∃ (i : Nat) (x : UInt8), Lib.indexByte letL c = (i : Int) ∧ i < 7 ∧ escL[i]? = some x ∧ unlet c = some x := by
  have : ∀ n : Fin 256, (Lib.indexByte letL (UInt8.ofNat n.val) < 0 ∧ unlet (UInt8.ofNat n.val) = none) ∨ ∃ i : Fin 7, Lib.indexByte letL (UInt8.ofNat n.val) = (i.val : Int) ∧ unlet (UInt8.ofNat n.val) = escL[i.val]? := by decide +kernel
  have h := this ⟨c.toNat, c.toNat_lt⟩
  simp only [UInt8.ofNat_toNat] at h
  rcases h with h | ⟨i, h1, h2⟩
  · exact .inl h
  · have hi : i.val < escL.length := i.isLt
    exact .inr ⟨i.val, escL[i.val], h1, i.isLt, List.getElem?_eq_getElem hi, by rw [h2]; exact List.getElem?_eq_getElem hi⟩

set_option maxRecDepth 100000 in
set_option maxHeartbeats 1000000 in
theorem escape_any (g : Nat) (s r : List UInt8) (w : World) (hr : Rd w g s r) (hs : s.length ≤ 1048576) :
    Calls Tryz.prog 124 #[.pointer (some ⟨g, 0, none⟩)] w (OPost g s byteY byteN (escR r) w) := by
  cases r with
  | nil =>
    go_enter Tryz.func124, Tryz.ntmps124
    go_wp2_with fail
    refine (next_end g s _ hr hs).mono ?_
    rintro e w2 ⟨rfl, hr2, hon2⟩
    go_wp2_with fail
    go_ret2
    exact .none rfl ⟨rfl, hr2, hon2⟩
  | cons c r =>
    have Hc := Lib.hid (escR_cons c r)
    by_cases h1 : c = 47
    · subst h1
      go_enter Tryz.func124, Tryz.ntmps124
      go_wp2_with fail
      refine (next_cons g s 47 r _ hr hs).mono ?_
      rintro e w2 ⟨rfl, hr2, hon2⟩
      go_wp2_with fail
      go_ret2
      exact .some (a := 47) (r := r) rfl ⟨rfl, hr2, hon2⟩
    have h1b : ((c.toNat : Int) == 47) = false := by
      rw [beq_eq_false_iff_ne]
      intro h; apply h1; apply UInt8.toNat_inj.1; show c.toNat = 47; omega
    rw [if_neg h1] at Hc
    by_cases h2 : c = 117
    · subst h2
      rw [if_pos rfl] at Hc
      go_enter Tryz.func124, Tryz.ntmps124
      go_wp2_with fail
      refine (next_cons g s 117 r _ hr hs).mono ?_
      rintro e w2 ⟨rfl, hr2, hon2⟩
      go_wp2_with fail
      refine (code_any g s r _ hr2 hs).mono ?_
      intro e w3 ho
      rcases ho.cases with ⟨a, r3, ha, rfl, hr3, hon3⟩ | ⟨ha, r3, rfl, hr3, hon3⟩
      · unfold byteY
        have Ha := Lib.hid ha
        clear ha ho
        go_wp2_with fail
        go_ret2
        exact .some (a := a) (by rw [Hc.out]; exact Ha.out) ⟨rfl, hr3, only_trans hon2 hon3⟩
      · unfold byteN
        have Ha := Lib.hid ha
        clear ha ho
        go_wp2_with fail
        go_ret2
        exact .none (by rw [Hc.out]; exact Ha.out) ⟨rfl, hr3, only_trans hon2 hon3⟩
    have h2b : ((c.toNat : Int) == 117) = false := by
      rw [beq_eq_false_iff_ne]
      intro h; apply h2; apply UInt8.toNat_inj.1; show c.toNat = 117; omega
    rw [if_neg h2] at Hc
    rcases unlet_at c with ⟨hi, hu⟩ | ⟨i, x, hi, hi7, hx, hu⟩
    · rw [hu] at Hc
      simp only [letL] at hi
      clear hu
      go_enter Tryz.func124, Tryz.ntmps124
      go_wp2_with fail
      refine (next_cons g s c r _ hr hs).mono ?_
      rintro e w2 ⟨rfl, hr2, hon2⟩
      go_wp2_with ((go_at_call 77; refine (idx_any _ c _).mono ?_; rintro e w3 ⟨rfl, rfl⟩))
      go_ret2
      exact .none Hc.out ⟨rfl, hr2, hon2⟩
    · rw [hu] at Hc
      have hidx := fun W => run_index_at (P := Tryz.prog) W 9 escL .i64 i x Tryz.underlying9 hx
      simp only [escL] at hidx
      simp only [letL] at hi
      clear hu
      go_enter Tryz.func124, Tryz.ntmps124
      go_wp2_with fail
      refine (next_cons g s c r _ hr hs).mono ?_
      rintro e w2 ⟨rfl, hr2, hon2⟩
      go_wp2_with ((go_at_call 77; refine (idx_any _ c _).mono ?_; rintro e w3 ⟨rfl, rfl⟩))
      go_ret2
      exact .some (a := x) Hc.out ⟨rfl, hr2, hon2⟩

theorem only_below_then {a b c : World} {row : Option Nat} (h : a.grownBy b row) (k : Below a.heap.size b c) : a.grownBy c row :=
  ⟨k.os.trans h.os, k.tape.trans h.tape, k.output.trans h.output, Nat.le_trans h.size k.size, fun i hi hne => (k.block i hi).trans (h.block i hi hne)⟩
theorem Own.kept {w w' : World} {B g : Nat} {v : Value} {l : List UInt8} (h : Own w B v l) (hg : w.grownBy w' (some g)) (hgB : g < B) : Own w' B v l :=
  World.ownsRow.kept h hg (by
    cases hv : v.ownBlock with
    | none => exact .inl rfl
    | some k => exact .inr (fun e => by injection e with e; have := (World.ownsRow.lt h k hv).1; omega))

def strY (t : List UInt8) : Value := .tuple #[str t, .bool true]
def strN : Value := .tuple #[str [], .bool false]
def StringR (g : Nat) (s : List UInt8) (T : Option (List UInt8 × List UInt8)) (w : World) (gk : Nat) (b : Value) (wr : World) : Prop :=
  ∃ (r l : List UInt8), gk = r.length ∧ Rd wr g s r ∧ Own wr w.heap.size b l ∧ (strR r).map (fun z => (l ++ z.1, z.2)) = T ∧ w.grownBy wr (some g) ∧ l.length + r.length ≤ 1048000

theorem byte_ne {c d : UInt8} (h : c ≠ d) : ((c.toNat : Int) == (d.toNat : Int)) = false := by
  rw [beq_eq_false_iff_ne]
  intro e; apply h; apply UInt8.toNat_inj.1; omega

set_option maxRecDepth 100000 in
set_option maxHeartbeats 2000000 in
theorem restString_any (g : Nat) (s r : List UInt8) (w : World) (hr : Rd w g s r) (hs : s.length ≤ 1048000) :
    Calls Tryz.prog 105 #[.pointer (some ⟨g, 0, none⟩)] w (OPost g s strY strN (strR r) w) := by
  have hg := hr.lt
  have hrl := hr.le
  generalize hT : strR r = T
  have HT := Lib.hid (show (strR r).map (fun z => ([] ++ z.1, z.2)) = T by rw [hT]; simp)
  clear hT
  go_enter Tryz.func105, Tryz.ntmps105
  go_wp2_with fail
  go_loopg [4] r.length (StringR g s T w)
  case atStart => exact ⟨r, [], rfl, hr, Own.nil _ _, HT.out, World.grownBy.refl _ _, by simp; omega⟩
  case round =>
    clear HT
    obtain ⟨r1, l, hgk, hr1, hown, hT, hon, hlen⟩ := hrel
    have Hgk := Lib.hid hgk
    have HT := Lib.hid hT
    clear hgk hT
    have hsz : w.heap.size ≤ wr.heap.size := hon.size
    cases r1 with
    | nil =>
      have Hn := Lib.hid (show T = none by rw [← HT.out, strR_nil]; rfl)
      go_wp2_with fail
      refine (next_end g s _ hr1 (by omega)).mono ?_
      rintro e w2 ⟨rfl, hr2, hon2⟩
      go_wp2_with fail
      go_ret2
      exact .none Hn.out ⟨rfl, hr2, only_trans hon hon2⟩
    | cons c r2 =>
      simp at hlen
      by_cases h32 : c.toNat < 32
      · have Hn := Lib.hid (show T = none by rw [← HT.out, strR_low h32]; rfl)
        go_wp2_with fail
        refine (next_cons g s c r2 _ hr1 (by omega)).mono ?_
        rintro e w2 ⟨rfl, hr2, hon2⟩
        go_wp2_with fail
        go_ret2
        exact .none Hn.out ⟨rfl, hr2, only_trans hon hon2⟩
      have h32' : 32 ≤ c.toNat := by omega
      by_cases h34 : c = 34
      · subst h34
        have Hn := Lib.hid (show T = some (l, r2) by rw [← HT.out, strR_end]; simp)
        go_wp2_with fail
        refine (next_cons g s 34 r2 _ hr1 (by omega)).mono ?_
        rintro e w2 ⟨rfl, hr2, hon2⟩
        have hown2 := hown.kept hon2 hg
        obtain ⟨A2, c2, rfl, hA2⟩ := hown2.form
        have hcv := run_convert_bytes (P := Tryz.prog) (c := c2) 46 9 5 Tryz.underlying46 Tryz.underlying5 Tryz.underlying9 hown2.holds (fun h => (hA2 h).1)
        go_wp2_with fail
        go_ret2
        exact .some (a := l) Hn.out ⟨rfl, hr2, only_trans hon hon2⟩
      have h34b : ((c.toNat : Int) == 34) = false := byte_ne (d := 34) h34
      by_cases h92 : c = 92
      · subst h92
        have HT2 := Lib.hid (show (match escR r2 with | none => none | some (x, q) => (strR q).map fun z => (l ++ x :: z.1, z.2)) = T by
          rw [← HT.out, strR_esc]
          cases escR r2 with
          | none => rfl
          | some xq => simp [Option.map_map, Function.comp_def])
        clear HT
        go_wp2_with fail
        refine (next_cons g s 92 r2 _ hr1 (by omega)).mono ?_
        rintro e w2 ⟨rfl, hr2, hon2⟩
        go_wp2_with fail
        refine (escape_any g s r2 _ hr2 (by omega)).mono ?_
        intro e w3 ho
        rcases ho.cases with ⟨a, r3, ha, rfl, hr3, hon3⟩ | ⟨ha, r3, rfl, hr3, hon3⟩
        · unfold byteY
          have hlt := escR_len _ _ _ ha
          have HT3 := Lib.hid (show (strR r3).map (fun z => (l ++ a :: z.1, z.2)) = T by rw [← HT2.out, ha])
          clear ha ho
          have hon23 := only_trans hon2 hon3
          have hown3 := hown.kept hon23 hg
          have hsz3 : w.heap.size ≤ w3.heap.size := Nat.le_trans hsz hon23.size
          go_wp2_with (at_builtin
                       refine wpList_put rfl _ _ rfl w.heap.size u4 l [a] _ rfl (by rfl) hown3 1 rfl _ (by rfl) (by simp) (by simp; omega) hsz3 ?_
                       intro v4 w4 hown4 hfr4)
          go_roundg r3.length
          case measure => have := Hgk.out; simp at this; omega
          case rel =>
            refine ⟨r3, l ++ [a], rfl, hr3.wfr hfr4, hown4, ?_, only_below_then (only_trans hon hon23) hfr4.1, by simp; omega⟩
            rw [← HT3.out]; simp
        · unfold byteN
          have Hn := Lib.hid (show T = none by rw [← HT2.out, ha])
          clear ha ho
          go_wp2_with fail
          go_ret2
          exact .none Hn.out ⟨rfl, hr3, only_trans hon (only_trans hon2 hon3)⟩
      · have h92b : ((c.toNat : Int) == 92) = false := byte_ne (d := 92) h92
        have HT2 := Lib.hid (show (strR r2).map (fun z => (l ++ c :: z.1, z.2)) = T by rw [← HT.out, strR_cons h32 h34 h92]; simp [Option.map_map, Function.comp_def])
        clear HT
        go_wp2_with fail
        refine (next_cons g s c r2 _ hr1 (by omega)).mono ?_
        rintro e w2 ⟨rfl, hr2, hon2⟩
        have hown2 := hown.kept hon2 hg
        have hsz2 : w.heap.size ≤ w2.heap.size := Nat.le_trans hsz hon2.size
        go_wp2_with (at_builtin
                     refine wpList_put rfl _ _ rfl w.heap.size u4 l [c] _ rfl (by rfl) hown2 1 rfl _ (by rfl) (by simp) (by simp; omega) hsz2 ?_
                     intro v4 w4 hown4 hfr4)
        go_roundg r2.length
        case measure => have := Hgk.out; simp at this; omega
        case rel =>
          refine ⟨r2, l ++ [c], rfl, hr2.wfr hfr4, hown4, ?_, only_below_then (only_trans hon hon2) hfr4.1, by simp; omega⟩
          rw [← HT2.out]; simp
end Go.Proofs.YtgghncgefhanjaaGreatDoor
