/- json's reader: skipSpace, take, takeMark, next: what each call returns and where it leaves the reader. -/
import Derived.Test.YtgghncgefhanjaaGreatDoorJByte
import Derived.Test.YtgghncgefhanjaaGreatDoorJIncr
namespace Go.Proofs.YtgghncgefhanjaaGreatDoor
set_option linter.unusedVariables false
set_option linter.unusedSimpArgs false
open Go.RowKit

theorem quiet_left {P : Program} {f : FuncId} {args : Array Value} {w : World} {n : Nat} {v : Value}
    (h : Calls P f args (w.drewN n) fun e w' => e = .returned v ∧ w.drewN n = w') : Calls P f args (w.drewN n) fun e w'' => e = .returned v ∧ ∃ m, w'' = w.drewN m :=
  h.mono fun _ _ ⟨he, hm⟩ => ⟨he, n, hm.symm⟩

/-- The reader at g stands ahead of r, which ends the text s. -/
def Rd (w : World) (g : Nat) (s r : List UInt8) : Prop := ∃ p : Nat, p + r.length = s.length ∧ s.drop p = r ∧ Blk w g 110 #[str s, .int .i64 (p : Int)]
def RPost (g : Nat) (s : List UInt8) (ret : Value) (r : List UInt8) (w : World) (e : Ending) (w' : World) : Prop := e = .returned ret ∧ Rd w' g s r ∧ w.grownBy w' (some g)

theorem Rd.lt {w : World} {g : Nat} {s r : List UInt8} (h : Rd w g s r) : g < w.heap.size := by obtain ⟨_, _, _, hb⟩ := h; exact hb.lt
theorem Rd.le {w : World} {g : Nat} {s r : List UInt8} (h : Rd w g s r) : r.length ≤ s.length := by obtain ⟨_, h1, _⟩ := h; omega
theorem Rd.alloc {w : World} {g : Nat} {s r : List UInt8} (h : Rd w g s r) (o : Obj) : Rd (w.alloc o) g s r := by obtain ⟨p, h1, h2, hb⟩ := h; exact ⟨p, h1, h2, hb.alloc o⟩
theorem Rd.below {w w' : World} {g : Nat} {s r : List UInt8} (h : Rd w g s r) (hb : Below w.heap.size w w') : Rd w' g s r := by
  obtain ⟨p, h1, h2, hk⟩ := h; exact ⟨p, h1, h2, hk.below hb hk.lt⟩
theorem Rd.grown {w w' : World} {g : Nat} {s r : List UInt8} {row : Option Nat} (h : Rd w g s r) (hb : w.grownBy w' row) (hne : some g ≠ row) : Rd w' g s r := by
  obtain ⟨p, h1, h2, hk⟩ := h; exact ⟨p, h1, h2, hk.grown hb hne⟩
theorem Rd.wfr {w w' : World} {g B : Nat} {s r : List UInt8} (h : Rd w g s r) (hb : WFr B w w') : Rd w' g s r := by
  obtain ⟨p, h1, h2, hk⟩ := h; exact ⟨p, h1, h2, hb.blk hk (by decide)⟩

theorem ws_idx (c : UInt8) : (0 ≤ Lib.indexByte [32, 9, 10, 13] c) = (isWs c = true) := by
  by_cases h1 : c = 32
  · subst h1; decide
  by_cases h2 : c = 9
  · subst h2; decide
  by_cases h3 : c = 10
  · subst h3; decide
  by_cases h4 : c = 13
  · subst h4; decide
  simp [isWs, Lib.indexByte, Ne.symm h1, Ne.symm h2, Ne.symm h3, Ne.symm h4, h1, h2, h3, h4]

theorem drewN_only {a w : World} {row : Option Nat} (h : a.grownBy w row) (n : Nat) : a.grownBy (w.drewN n) row := ⟨h.os, h.tape, h.output, h.size, h.block⟩
def SkipR (g : Nat) (s T : List UInt8) (w : World) (gk : Nat) (wr : World) : Prop := ∃ r, gk = r.length ∧ Rd wr g s r ∧ skip r = T ∧ w.grownBy wr (some g)

attribute [local go_sem high] str_mk
set_option maxRecDepth 100000 in
set_option maxHeartbeats 1000000 in
theorem skip_any (g : Nat) (s r : List UInt8) (w : World) (hr : Rd w g s r) (hs : s.length ≤ 1048576) :
    Calls Tryz.prog 78 #[.pointer (some ⟨g, 0, none⟩)] w (RPost g s (.tuple #[]) (skip r) w) := by
  go_enter Tryz.func78, Tryz.ntmps78
  go_wp2_with fail
  go_loopg [] r.length (SkipR g s (skip r) w)
  case atStart => exact ⟨r, rfl, hr, rfl, World.grownBy.refl _ _⟩
  case round =>
    obtain ⟨r', rfl, ⟨p, hp, hd, hb⟩, hT, hon⟩ := hrel
    have c0 : wr.cell? ⟨g, 0, none⟩ = some (str s) := hb.cell 0
    have c1 : wr.cell? ⟨g, 1, none⟩ = some (.int .i64 (p : Int)) := hb.cell 1
    have f1 : wr.frozen? ⟨g, 1, none⟩ = false := hb.frozen 1
    have HT := Lib.hid hT
    have Hd := Lib.hid hd
    clear hT hd
    cases r' with
    | nil =>
      simp at hp
      have hlt : ¬ p < s.length := by omega
      have hltb : decide ((p : Int) < (s.length : Int)) = false := by simp; omega
      have Hp := Lib.hid hp
      clear hp
      go_wp2_with fail
      go_quiet (fail)
      go_wp2_with fail
      go_end0
      refine ⟨rfl, ?_, drewN_only hon _⟩
      rw [show skip r = [] from HT.out.symm]
      exact ⟨p, by simpa using Hp.out, Hd.out, hb⟩
    | cons c r2 =>
      simp at hp
      have hlt : p < s.length := by omega
      have hltI : (p : Int) < (s.length : Int) := by omega
      have hp1 : p + 1 + r2.length = s.length := by omega
      have hidx := fun W => run_index_str (P := Tryz.prog) W 9 s .i64 p Tryz.underlying9 hlt
      have hsp : s[p] = c := by
        have := Hd.out
        rw [List.drop_eq_getElem_cons hlt] at this
        exact (List.cons.inj this).1
      have hd2 : s.drop (p + 1) = r2 := by
        have := Hd.out
        rw [List.drop_eq_getElem_cons hlt] at this
        exact (List.cons.inj this).2
      rw [hsp] at hidx
      have Hd2 := Lib.hid hd2
      have Hp := Lib.hid hp
      have Hp1 := Lib.hid hp1
      clear hsp hd2 hp hp1
      have hst : Blk (wr.setCell ⟨g, 1, none⟩ (.int .i64 ((p + 1 : Nat) : Int))) g 110 #[str s, .int .i64 ((p + 1 : Nat) : Int)] := hb.set_ 1 _
      have hq := ws_idx c
      by_cases hw : isWs c = true
      · rw [hw] at hq
        have hi : 0 ≤ Lib.indexByte [32, 9, 10, 13] c := by rw [hq]
        have HT2 := Lib.hid (show skip r2 = skip r by rw [← HT.out]; simp [skip, List.dropWhile_cons, hw])
        clear hq
        go_wp2_with fail
        go_quiet ((go_at_call 77; exact quiet_left (idx_any _ c _)))
        go_wp2_with fail
        go_roundg r2.length
        case measure => simp
        case rel => exact ⟨r2, rfl, ⟨p + 1, Hp1.out, Hd2.out, by exact_mod_cast hst⟩, HT2.out, only_setCell (drewN_only hon _) (.inl rfl) _⟩
      · have hi : Lib.indexByte [32, 9, 10, 13] c < 0 := by
          have : ¬ (0 ≤ Lib.indexByte [32, 9, 10, 13] c) := by rw [hq]; exact hw
          omega
        have HT2 := Lib.hid (show skip r = c :: r2 by rw [← HT.out]; simp [skip, List.dropWhile_cons, hw])
        clear hq
        go_wp2_with fail
        go_quiet ((go_at_call 77; exact quiet_left (idx_any _ c _)))
        go_wp2_with fail
        go_end0
        refine ⟨rfl, ?_, drewN_only hon _⟩
        rw [HT2.out]
        exact ⟨p, by simpa using Hp.out, Hd.out, hb⟩

theorem hasPre (r p : List UInt8) (w : World) : Calls Tryz.prog 122 #[str r, str p] w fun e w' => e = .returned (.bool (Lib.hasPrefix r p)) ∧ w = w' :=
  (Tryz.strings_HasPrefix ⟨r.toArray⟩ ⟨p.toArray⟩ w).mono fun e w' ⟨he, hw⟩ => ⟨by rw [he], hw.symm⟩
theorem hasPrefix_app (a b : List UInt8) : Lib.hasPrefix (a ++ b) a = true := by
  simp [Lib.hasPrefix]

set_option maxRecDepth 100000 in
set_option maxHeartbeats 1000000 in
theorem take_yes (g : Nat) (s word r : List UInt8) (w : World) (hr : Rd w g s (word ++ r)) (hs : s.length ≤ 1048576) :
    Calls Tryz.prog 104 #[.pointer (some ⟨g, 0, none⟩), str word] w (RPost g s (.bool true) r w) := by
  obtain ⟨p, hp, hd, hb⟩ := hr
  have c0 : w.cell? ⟨g, 0, none⟩ = some (str s) := hb.cell 0
  have c1 : w.cell? ⟨g, 1, none⟩ = some (.int .i64 (p : Int)) := hb.cell 1
  have f1 : w.frozen? ⟨g, 1, none⟩ = false := hb.frozen 1
  have hsl := fun W => run_str_l (P := Tryz.prog) W 9 Tryz.underlying9 s .i64 (p : Int) p rfl (by omega)
  rw [hd] at hsl
  have hpre := hasPrefix_app word r
  have Hd := Lib.hid (show s.drop (p + word.length) = r by rw [← List.drop_drop, hd]; simp)
  have Hp := Lib.hid (show p + word.length + r.length = s.length by simp at hp; omega)
  have hpl : p + word.length ≤ s.length := by simp at hp; omega
  clear hd hp
  have hst : Blk (w.setCell ⟨g, 1, none⟩ (.int .i64 ((p + word.length : Nat) : Int))) g 110 #[str s, .int .i64 ((p + word.length : Nat) : Int)] := hb.set_ 1 _
  generalize word ++ r = full at *
  go_enter Tryz.func104, Tryz.ntmps104
  go_wp2_with fail
  go_quiet ((go_at_call 122; exact quiet_left (hasPre _ _ _)))
  go_wp2_with fail
  go_ret
  exact ⟨rfl, ⟨p + word.length, Hp.out, Hd.out, by exact_mod_cast hst⟩, only_setCell (drewN_only (World.grownBy.refl _ _) _) (.inl rfl) _⟩
set_option maxRecDepth 100000 in
set_option maxHeartbeats 1000000 in
theorem take_no (g : Nat) (s word r : List UInt8) (w : World) (hr : Rd w g s r) (hpre : Lib.hasPrefix r word = false) (hs : s.length ≤ 1048576) :
    Calls Tryz.prog 104 #[.pointer (some ⟨g, 0, none⟩), str word] w (RPost g s (.bool false) r w) := by
  obtain ⟨p, hp, hd, hb⟩ := hr
  have c0 : w.cell? ⟨g, 0, none⟩ = some (str s) := hb.cell 0
  have c1 : w.cell? ⟨g, 1, none⟩ = some (.int .i64 (p : Int)) := hb.cell 1
  have hsl := fun W => run_str_l (P := Tryz.prog) W 9 Tryz.underlying9 s .i64 (p : Int) p rfl (by omega)
  rw [hd] at hsl
  have Hd := Lib.hid hd
  have Hp := Lib.hid hp
  clear hd hp
  go_enter Tryz.func104, Tryz.ntmps104
  go_wp2_with fail
  go_quiet ((go_at_call 122; exact quiet_left (hasPre _ _ _)))
  go_wp2_with fail
  go_ret
  exact ⟨rfl, ⟨p, Hp.out, Hd.out, hb⟩, drewN_only (World.grownBy.refl _ _) _⟩

set_option maxRecDepth 100000 in
set_option maxHeartbeats 1000000 in
theorem mark_yes (g : Nat) (s word r r' : List UInt8) (w : World) (hr : Rd w g s r) (he : skip r = word ++ r') (hs : s.length ≤ 1048576) :
    Calls Tryz.prog 106 #[.pointer (some ⟨g, 0, none⟩), str word] w (RPost g s (.bool true) (skip r') w) := by
  have He := Lib.hid he
  clear he
  go_enter Tryz.func106, Tryz.ntmps106
  go_wp2_with fail
  refine (skip_any g s r _ hr hs).mono ?_
  rintro e w1 ⟨rfl, hr1, hon1⟩
  rw [He.out] at hr1
  go_wp2_with fail
  refine (take_yes g s word r' _ hr1 hs).mono ?_
  rintro e w2 ⟨rfl, hr2, hon2⟩
  go_wp2_with fail
  refine (skip_any g s r' _ hr2 hs).mono ?_
  rintro e w3 ⟨rfl, hr3, hon3⟩
  go_wp2_with fail
  go_ret
  exact ⟨rfl, hr3, only_trans (only_trans hon1 hon2) hon3⟩
set_option maxRecDepth 100000 in
set_option maxHeartbeats 1000000 in
theorem mark_no (g : Nat) (s word r : List UInt8) (w : World) (hr : Rd w g s r) (he : Lib.hasPrefix (skip r) word = false) (hs : s.length ≤ 1048576) :
    Calls Tryz.prog 106 #[.pointer (some ⟨g, 0, none⟩), str word] w (RPost g s (.bool false) (skip r) w) := by
  have He := Lib.hid he
  clear he
  go_enter Tryz.func106, Tryz.ntmps106
  go_wp2_with fail
  refine (skip_any g s r _ hr hs).mono ?_
  rintro e w1 ⟨rfl, hr1, hon1⟩
  go_wp2_with fail
  refine (take_no g s word _ _ hr1 He.out hs).mono ?_
  rintro e w2 ⟨rfl, hr2, hon2⟩
  go_wp2_with fail
  go_ret
  exact ⟨rfl, hr2, only_trans hon1 hon2⟩

set_option maxRecDepth 100000 in
set_option maxHeartbeats 1000000 in
theorem next_end (g : Nat) (s : List UInt8) (w : World) (hr : Rd w g s []) (hs : s.length ≤ 1048576) :
    Calls Tryz.prog 123 #[.pointer (some ⟨g, 0, none⟩)] w (RPost g s (.tuple #[.int .u8 0, .bool false]) [] w) := by
  obtain ⟨p, hp, hd, hb⟩ := hr
  have c0 : w.cell? ⟨g, 0, none⟩ = some (str s) := hb.cell 0
  have c1 : w.cell? ⟨g, 1, none⟩ = some (.int .i64 (p : Int)) := hb.cell 1
  have hge : s.length ≤ p := by simp at hp; omega
  have hgb : decide ((s.length : Int) ≤ (p : Int)) = true := by simp; omega
  have Hd := Lib.hid hd
  have Hp := Lib.hid hp
  clear hd hp
  go_enter Tryz.func123, Tryz.ntmps123
  go_wp2_with fail
  go_quiet (fail)
  go_wp2_with fail
  go_ret2
  exact ⟨rfl, ⟨p, Hp.out, Hd.out, hb⟩, drewN_only (World.grownBy.refl _ _) _⟩
theorem drop_cons {s : List UInt8} {p : Nat} {c : UInt8} {r : List UInt8} (hp : p + (c :: r).length = s.length) (hd : s.drop p = c :: r) :
    ∃ hlt : p < s.length, s[p] = c ∧ s.drop (p + 1) = r ∧ p + 1 + r.length = s.length := by
  simp at hp
  have hlt : p < s.length := by omega
  rw [List.drop_eq_getElem_cons hlt] at hd
  exact ⟨hlt, (List.cons.inj hd).1, (List.cons.inj hd).2, by omega⟩
set_option maxRecDepth 100000 in
set_option maxHeartbeats 1000000 in
theorem next_cons (g : Nat) (s : List UInt8) (c : UInt8) (r : List UInt8) (w : World) (hr : Rd w g s (c :: r)) (hs : s.length ≤ 1048576) :
    Calls Tryz.prog 123 #[.pointer (some ⟨g, 0, none⟩)] w (RPost g s (.tuple #[.int .u8 (c.toNat : Int), .bool true]) r w) := by
  obtain ⟨p, hp, hd, hb⟩ := hr
  have c0 : w.cell? ⟨g, 0, none⟩ = some (str s) := hb.cell 0
  have c1 : w.cell? ⟨g, 1, none⟩ = some (.int .i64 (p : Int)) := hb.cell 1
  have f1 : w.frozen? ⟨g, 1, none⟩ = false := hb.frozen 1
  obtain ⟨hlt, hsp, hd2, hp2⟩ := drop_cons hp hd
  have hidx := fun W => run_index_str (P := Tryz.prog) W 9 s .i64 p Tryz.underlying9 hlt
  rw [hsp] at hidx
  have hgb : decide ((s.length : Int) ≤ (p : Int)) = false := by simp; omega
  have hlI : (p : Int) < (s.length : Int) := by omega
  have Hd := Lib.hid hd2
  have Hp := Lib.hid hp2
  clear hd hp hsp hd2 hp2
  have hst : Blk (w.setCell ⟨g, 1, none⟩ (.int .i64 ((p + 1 : Nat) : Int))) g 110 #[str s, .int .i64 ((p + 1 : Nat) : Int)] := hb.set_ 1 _
  go_enter Tryz.func123, Tryz.ntmps123
  go_wp2_with fail
  go_quiet (fail)
  go_wp2_with fail
  go_quiet (fail)
  go_wp2_with fail
  go_ret2
  exact ⟨rfl, ⟨p + 1, Hp.out, Hd.out, by exact_mod_cast hst⟩, only_setCell (drewN_only (World.grownBy.refl _ _) _) (.inl rfl) _⟩
end Go.Proofs.YtgghncgefhanjaaGreatDoor
