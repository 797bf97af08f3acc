/- json.write, writeArray and writeObject: what each call returns. -/
import Derived.Test.YtbdbcffnjibjoaaGreatDoorJByte
import Derived.Test.YtbdbcffnjibjoaaGreatDoorJCheck
import Derived.Lib.AppendIntMem
namespace Go.Proofs.YtbdbcffnjibjoaaGreatDoor
set_option linter.unusedVariables false
set_option linter.unusedSimpArgs false
open Go.RowKit

/-- The library's table of powers of ten reads as it is laid, whatever is done from block B on. -/
def Tab (B : Nat) (w : World) : Prop := Lib.TabBelow Tryz.prog B w "internal/strconv.uint64pow10" .u64 Lib.pow10Tab
theorem Tab.on {B : Nat} {w w1 : World} (h : Tab B w) (hb : Below B w w1) : Tab B w1 := Lib.TabBelow.on h hb

def WriteOk (f : Nat) : Prop := ∀ (v : JV) (d : Nat) (cs : List Value) (sv : Value) (l : List UInt8) (B : Nat) (w : World), 6 < d + f → d ≤ 6 → fault d v = 0 → VIn w B v cs → Own w B sv l → B ≤ w.heap.size → Tab B w →
  l.length + 1300 * count v ≤ 980000 → Calls Tryz.prog 35 #[sv, .agg cs.toArray] w (WrPost B (wr l v) w)

theorem wrArr_drop (f : Bool) (l : List UInt8) (ps : List JV) (k : Nat) (hk : k < ps.length) : wrArr f l (ps.drop k) = wrArr false (wr (l ++ sep f) ps[k]) (ps.drop (k + 1)) := by
  rw [List.drop_eq_getElem_cons hk, wrArr]
def ArrR (B d : Nat) (ps : List JV) (T : List UInt8) (w : World) (gk : Nat) (b i : Value) (wr : World) : Prop :=
  ∃ (k : Nat) (l : List UInt8), i = .int .i64 k ∧ k ≤ ps.length ∧ gk = ps.length - k ∧ Own wr B b l ∧ WFr B w wr ∧ wrArr (k == 0) l (ps.drop k) = T ∧ faults d (ps.drop k) = 0 ∧ l.length + 1300 * counts (ps.drop k) ≤ 978800

set_option maxRecDepth 100000 in
set_option maxHeartbeats 2000000 in
theorem array_any (f : Nat) (ih : WriteOk f) (ps : List JV) (d : Nat) (A : Option Addr) (c : Nat) (pc : List Value) (sv : Value) (l : List UInt8) (B : Nat) (w : World) (hdf : 6 < d + f) (hd6 : d ≤ 6) (hft : faults d ps = 0)
    (hh : Holds w B 5 A ps.length pc) (hp : PIn w B ps pc) (hps : ps.length ≤ 1048576) (hown : Own w B sv l) (hB : B ≤ w.heap.size) (htab : Tab B w) (hl : l.length + 1300 * counts ps ≤ 978700) :
    Calls Tryz.prog 63 #[sv, .slice A ps.length c] w (WrPost B (wrArr true (l ++ [91]) ps ++ [93]) w) := by
  have HT := Lib.hid (rfl : wrArr true (l ++ [91]) ps = wrArr true (l ++ [91]) ps)
  have Hft := Lib.hid hft
  have hTl := wrArr_le d true ps (l ++ [91]) hft
  clear hft
  go_enter Tryz.func63, Tryz.ntmps63
  go_wp2_with (at_builtin
               refine wpList_put rfl _ _ rfl B sv l [91] _ rfl (by rfl) hown 1 rfl _ (by rfl) (by simp) (by simp; omega) hB ?_
               intro v1 w1 hown1 hfr1)
  generalize hTd : wrArr true (l ++ [91]) ps = T at *
  have HT := Lib.hid hTd
  have HTl := Lib.hid (show T.length ≤ 978800 by simp at hTl; omega)
  clear hTd hTl
  have Hl1 := Lib.hid (show (l ++ [91]).length + 1300 * counts ps ≤ 978800 by simp; omega)
  go_loopg [0, 12] ps.length (ArrR B d ps T w)
  case atStart => exact ⟨0, _, rfl, by omega, by omega, hown1, hfr1, HT.out, Hft.out, Hl1.out⟩
  case round =>
    obtain ⟨k, l', rfl, hk, hgk, hown', hfr', hch, hf', hl'⟩ := hrel
    have hBr : B ≤ wr.heap.size := Nat.le_trans hB hfr'.size
    have Hgk := Lib.hid hgk
    clear hgk hown1 hfr1
    by_cases hlt : k < ps.length
    · have hcd := counts_drop ps k hlt
      obtain ⟨hfk, hfr⟩ := faults_cons (show faults d (ps[k] :: ps.drop (k + 1)) = 0 by rw [← List.drop_eq_getElem_cons hlt]; exact hf')
      have hwl := wr_le d ps[k] (l' ++ sep (k == 0)) hfk
      have hsl := sep_le (k == 0)
      have hcp := count_pos ps[k]
      obtain ⟨b, off, k2, n2, t2, Ak2, nk2, ck2, Ap2, np2, cp2, rfl, hb, hv, c0, c1, c2, c3, c4⟩ := part_cells (hh.below hfr'.1) (hp.below hfr'.1) k hlt
      have hd := wrArr_drop (k == 0) l' ps k hlt
      have Hch := Lib.hid (hd.symm.trans hch)
      have Hfr := Lib.hid hfr
      have Hfk := Lib.hid hfk
      have Hnew := Lib.hid (show (Go.Proofs.YtbdbcffnjibjoaaGreatDoor.wr (l' ++ sep (k == 0)) ps[k]).length + 1300 * counts (ps.drop (k + 1)) ≤ 978800 by simp at hwl; omega)
      have Hbd := Lib.hid (show (l' ++ sep (k == 0)).length + 1300 * count ps[k] ≤ 980000 by simp; omega)
      have hl2 : l'.length ≤ 978800 := by omega
      clear hd hch hfr hfk hf' hwl hsl hcp hcd
      have hpart : VIn (wr.alloc (.cells #[.int .i64 k2, .int .i64 n2, str t2, .slice Ak2 nk2 ck2, .slice Ap2 np2 cp2] 25)) B ps[k] [.int .i64 k2, .int .i64 n2, str t2, .slice Ak2 nk2 ck2, .slice Ap2 np2 cp2] :=
        VIn.kept (fun p hp => World.cell?_alloc_lt _ _ p (by omega)) _ _ hv
      by_cases hk0 : k = 0
      · subst hk0
        simp only [Nat.zero_mul, Nat.add_zero] at c0 c1 c2 c3 c4
        go_wp2_with fail
        refine (ih ps[0] d _ u0 l' B _ hdf hd6 Hfk.out hpart (hown'.alloc _) (by simp; omega) (htab.on (hfr'.1.alloc hBr _)) (by have := Hbd.out; simpa [sep] using this)).mono ?_
        rintro e w2 ⟨v2, rfl, hown2, hfr2⟩
        go_wp2_with fail
        go_roundg (ps.length - 1)
        case measure => have := Hgk.out; omega
        case rel =>
          refine ⟨1, _, by go_num, by omega, rfl, hown2, (hfr'.alloc hBr _).trans hfr2, ?_, Hfr.out, ?_⟩
          · have := Hch.out; simpa [sep] using this
          · have := Hnew.out; simpa [sep] using this
      · have hk0' : 0 < k := by omega
        have hkb : (k == 0) = false := by simpa using hk0
        rw [hkb] at Hch Hnew Hbd
        go_wp2_with (at_builtin
                     refine wpList_put rfl _ _ rfl B u0 l' [44] _ rfl (by rfl) (hown'.alloc _) 1 rfl _ (by rfl) (by simp) (by simp; omega) (by simp; omega) ?_
                     intro v2 w2 hown2 hfr2
                     have hbx := hfr2.blk (Blk.new wr 25 #[.int .i64 k2, .int .i64 n2, str t2, .slice Ak2 nk2 ck2, .slice Ap2 np2 cp2]) (by decide)
                     have e0 : w2.cell? ⟨wr.heap.size, 0, none⟩ = some (.int .i64 k2) := hbx.cell 0
                     have e1 : w2.cell? ⟨wr.heap.size, 1, none⟩ = some (.int .i64 n2) := hbx.cell 1
                     have e2 : w2.cell? ⟨wr.heap.size, 2, none⟩ = some (str t2) := hbx.cell 2
                     have e3 : w2.cell? ⟨wr.heap.size, 3, none⟩ = some (.slice Ak2 nk2 ck2) := hbx.cell 3
                     have e4 : w2.cell? ⟨wr.heap.size, 4, none⟩ = some (.slice Ap2 np2 cp2) := hbx.cell 4)
        have hfr3 := (hfr'.alloc hBr _).trans hfr2
        refine (ih ps[k] d _ v2 (l' ++ [44]) B _ hdf hd6 Hfk.out (hpart.below hfr2.1) hown2 (Nat.le_trans hB hfr3.size) (htab.on hfr3.1) Hbd.out).mono ?_
        rintro e w3 ⟨v3, rfl, hown3, hfr4⟩
        go_wp2_with fail
        go_roundg (ps.length - (k + 1))
        case measure => have := Hgk.out; omega
        case rel => exact ⟨k + 1, _, by go_num, by omega, rfl, hown3, hfr3.trans hfr4, Hch.out, Hfr.out, Hnew.out⟩
    · have Hend := Lib.hid (show l' = T by rw [List.drop_of_length_le (by omega), wrArr] at hch; exact hch)
      clear hch
      go_wp2_with (at_builtin
                   refine wpList_put rfl _ _ rfl B u0 l' [93] _ rfl (by rfl) hown' 1 rfl _ (by rfl) (by simp) (by simp; omega) hBr ?_
                   intro v3 w3 hown3 hfr3)
      go_ret
      exact ⟨_, rfl, by rw [← Hend.out]; exact hown3, hfr'.trans hfr3⟩

theorem wrObj_drop (f : Bool) (l : List UInt8) (ks : List (List UInt8)) (ps : List JV) (k : Nat) (hk : k < ps.length) (hks : k < ks.length) :
    wrObj f l (ks.drop k) (ps.drop k) = wrObj false (wr (wrStr (l ++ sep f) ks[k] ++ [58]) ps[k]) (ks.drop (k + 1)) (ps.drop (k + 1)) := by
  rw [List.drop_eq_getElem_cons hk, List.drop_eq_getElem_cons hks, wrObj]
def ObjR (B d : Nat) (ks : List (List UInt8)) (ps : List JV) (T : List UInt8) (w : World) (gk : Nat) (b i : Value) (wr : World) : Prop :=
  ∃ (k : Nat) (l : List UInt8), i = .int .i64 k ∧ k ≤ ps.length ∧ gk = ps.length - k ∧ Own wr B b l ∧ WFr B w wr ∧ wrObj (k == 0) l (ks.drop k) (ps.drop k) = T ∧ faults d (ps.drop k) = 0 ∧ l.length + 1300 * counts (ps.drop k) ≤ 978800

set_option maxRecDepth 100000 in
set_option maxHeartbeats 4000000 in
theorem object_any (f : Nat) (ih : WriteOk f) (ks : List (List UInt8)) (ps : List JV) (d : Nat) (Ak : Option Addr) (ck : Nat) (A : Option Addr) (c : Nat) (pc : List Value) (sv : Value) (l : List UInt8) (B : Nat) (w : World) (hdf : 6 < d + f) (hd6 : d ≤ 6) (hft : faults d ps = 0)
    (hlen : ks.length = ps.length) (hhk : Holds w B 1 Ak ks.length (ks.map str)) (hkl : ∀ s ∈ ks, s.length ≤ 1048576)
    (hh : Holds w B 5 A ps.length pc) (hp : PIn w B ps pc) (hps : ps.length ≤ 1048576) (hown : Own w B sv l) (hB : B ≤ w.heap.size) (htab : Tab B w) (hl : l.length + 1300 * counts ps ≤ 978700) :
    Calls Tryz.prog 64 #[sv, .slice Ak ks.length ck, .slice A ps.length c] w (WrPost B (wrObj true (l ++ [123]) ks ps ++ [125]) w) := by
  have Hft := Lib.hid hft
  have hTl := wrObj_le d true ks ps (l ++ [123]) hft
  have hle : ks.length ≤ ps.length := by omega
  have hge : ps.length ≤ ks.length := by omega
  have Hlen := Lib.hid hlen
  clear hft hlen
  go_enter Tryz.func64, Tryz.ntmps64
  go_wp2_with (at_builtin
               refine wpList_put rfl _ _ rfl B sv l [123] _ rfl (by rfl) hown 1 rfl _ (by rfl) (by simp) (by simp; omega) hB ?_
               intro v1 w1 hown1 hfr1)
  generalize hTd : wrObj true (l ++ [123]) ks ps = T at *
  have HT := Lib.hid hTd
  have HTl := Lib.hid (show T.length ≤ 978800 by simp at hTl; omega)
  clear hTd hTl
  have Hl1 := Lib.hid (show (l ++ [123]).length + 1300 * counts ps ≤ 978800 by simp; omega)
  go_loopg [0, 14] ps.length (ObjR B d ks ps T w)
  case atStart => exact ⟨0, _, rfl, by omega, by omega, hown1, hfr1, HT.out, Hft.out, Hl1.out⟩
  case round =>
    obtain ⟨k, l', rfl, hk, hgk, hown', hfr', hch, hf', hl'⟩ := hrel
    have hBr : B ≤ wr.heap.size := Nat.le_trans hB hfr'.size
    have Hgk := Lib.hid hgk
    clear hgk hown1 hfr1
    by_cases hlt : k < ps.length
    · have hltk : k < ks.length := by omega
      have hcd := counts_drop ps k hlt
      obtain ⟨hfk, hfr⟩ := faults_cons (show faults d (ps[k] :: ps.drop (k + 1)) = 0 by rw [← List.drop_eq_getElem_cons hlt]; exact hf')
      have hkk : ks[k].length ≤ 1048576 := hkl _ (List.getElem_mem hltk)
      have hwl := wr_le d ps[k] (wrStr (l' ++ sep (k == 0)) ks[k] ++ [58]) hfk
      have hws := wrStr_le ks[k] (l' ++ sep (k == 0))
      have hsl := sep_le (k == 0)
      have hcp := count_pos ps[k]
      obtain ⟨b, off, k2, n2, t2, Ak2, nk2, ck2, Ap2, np2, cp2, rfl, hb, hv, c0, c1, c2, c3, c4⟩ := part_cells (hh.below hfr'.1) (hp.below hfr'.1) k hlt
      obtain ⟨bk, offk, _, rfl, hbk, hck⟩ := (hhk.below hfr'.1).str hltk
      have hd := wrObj_drop (k == 0) l' ks ps k hlt hltk
      have Hch := Lib.hid (hd.symm.trans hch)
      have Hfr := Lib.hid hfr
      have Hfk := Lib.hid hfk
      have Hnew := Lib.hid (show (Go.Proofs.YtbdbcffnjibjoaaGreatDoor.wr (wrStr (l' ++ sep (k == 0)) ks[k] ++ [58]) ps[k]).length + 1300 * counts (ps.drop (k + 1)) ≤ 978800 by simp at hwl hws; omega)
      have Hbd := Lib.hid (show (wrStr (l' ++ sep (k == 0)) ks[k] ++ [58]).length + 1300 * count ps[k] ≤ 980000 by simp at hws ⊢; omega)
      have Hb2 := Lib.hid (show (wrStr (l' ++ sep (k == 0)) ks[k]).length + 1 ≤ 1048576 by simp at hws ⊢; omega)
      have Hb1 := Lib.hid (show (l' ++ sep (k == 0)).length ≤ 990000 by simp; omega)
      have hl2 : l'.length ≤ 978800 := by omega
      clear hd hch hfr hfk hf' hwl hsl hcp hcd hws
      generalize ks[k] = key at *
      by_cases hk0 : k = 0
      · subst hk0
        simp only [Nat.zero_mul, Nat.add_zero] at c0 c1 c2 c3 c4 hck
        have hs0 : l' ++ sep (0 == 0) = l' := by simp [sep]
        rw [hs0] at Hch Hnew Hbd Hb2 Hb1
        clear hs0
        go_wp2_with fail
        refine (string_any u0 key l' B wr hown' hBr Hb1.out hkk).mono ?_
        rintro e w2 ⟨v2, rfl, hown2, hfr2⟩
        have hfr3 := hfr'.trans hfr2
        have hv2 := hv.below hfr2.1
        have hb2 := fun o => hfr2.1.cell (p := ⟨b, o, none⟩) hb
        go_wp2_with (at_builtin
                     refine wpList_put rfl _ _ rfl B v2 (wrStr l' key) [58] _ rfl (by rfl) hown2 1 rfl _ (by rfl) (by simp) Hb2.out (Nat.le_trans hB hfr3.size) ?_
                     intro v3 w3 hown3 hfr4
                     have hb3 := fun o => hfr4.1.cell (p := ⟨b, o, none⟩) hb
                     have e0 : w3.cell? ⟨b, off, none⟩ = some (.int .i64 k2) := (hb3 _).trans ((hb2 _).trans c0)
                     have e1 : w3.cell? ⟨b, off + 1, none⟩ = some (.int .i64 n2) := (hb3 _).trans ((hb2 _).trans c1)
                     have e2 : w3.cell? ⟨b, off + 2, none⟩ = some (str t2) := (hb3 _).trans ((hb2 _).trans c2)
                     have e3 : w3.cell? ⟨b, off + 3, none⟩ = some (.slice Ak2 nk2 ck2) := (hb3 _).trans ((hb2 _).trans c3)
                     have e4 : w3.cell? ⟨b, off + 4, none⟩ = some (.slice Ap2 np2 cp2) := (hb3 _).trans ((hb2 _).trans c4)
                     clear hb2 hb3)
        have hfr5 := hfr3.trans hfr4
        refine (ih ps[0] d _ v3 (wrStr l' key ++ [58]) B _ hdf hd6 Hfk.out (hv2.below hfr4.1) hown3 (Nat.le_trans hB hfr5.size) (htab.on hfr5.1) Hbd.out).mono ?_
        rintro e w4 ⟨v4, rfl, hown4, hfr6⟩
        go_wp2_with fail
        go_roundg (ps.length - 1)
        case measure => have := Hgk.out; omega
        case rel => exact ⟨1, _, by go_num, by omega, rfl, hown4, hfr5.trans hfr6, Hch.out, Hfr.out, Hnew.out⟩
      · have hk0' : 0 < k := by omega
        have hkb : (k == 0) = false := by simpa using hk0
        have hs0 : l' ++ sep (k == 0) = l' ++ [44] := by rw [hkb]; rfl
        rw [hs0] at Hch Hnew Hbd Hb2 Hb1
        clear hs0 hkb
        go_wp2_with (at_builtin
                     refine wpList_put rfl _ _ rfl B u0 l' [44] _ rfl (by rfl) hown' 1 rfl _ (by rfl) (by simp) (by simp; omega) hBr ?_
                     intro v1 w1 hown1 hfr1)
        have hfr01 := hfr'.trans hfr1
        refine (string_any v1 key (l' ++ [44]) B w1 hown1 (Nat.le_trans hB hfr01.size) Hb1.out hkk).mono ?_
        rintro e w2 ⟨v2, rfl, hown2, hfr2'⟩
        have hfr2 := hfr1.trans hfr2'
        have hfr3 := hfr'.trans hfr2
        have hv2 := hv.below hfr2.1
        have hb2 := fun o => hfr2.1.cell (p := ⟨b, o, none⟩) hb
        clear hfr01 hown1 hfr1 hfr2'
        go_wp2_with (at_builtin
                     refine wpList_put rfl _ _ rfl B v2 (wrStr (l' ++ [44]) key) [58] _ rfl (by rfl) hown2 1 rfl _ (by rfl) (by simp) Hb2.out (Nat.le_trans hB hfr3.size) ?_
                     intro v3 w3 hown3 hfr4
                     have hb3 := fun o => hfr4.1.cell (p := ⟨b, o, none⟩) hb
                     have e0 : w3.cell? ⟨b, off + k * 5, none⟩ = some (.int .i64 k2) := (hb3 _).trans ((hb2 _).trans c0)
                     have e1 : w3.cell? ⟨b, off + k * 5 + 1, none⟩ = some (.int .i64 n2) := (hb3 _).trans ((hb2 _).trans c1)
                     have e2 : w3.cell? ⟨b, off + k * 5 + 2, none⟩ = some (str t2) := (hb3 _).trans ((hb2 _).trans c2)
                     have e3 : w3.cell? ⟨b, off + k * 5 + 3, none⟩ = some (.slice Ak2 nk2 ck2) := (hb3 _).trans ((hb2 _).trans c3)
                     have e4 : w3.cell? ⟨b, off + k * 5 + 4, none⟩ = some (.slice Ap2 np2 cp2) := (hb3 _).trans ((hb2 _).trans c4)
                     clear hb2 hb3)
        have hfr5 := hfr3.trans hfr4
        refine (ih ps[k] d _ v3 (wrStr (l' ++ [44]) key ++ [58]) B _ hdf hd6 Hfk.out (hv2.below hfr4.1) hown3 (Nat.le_trans hB hfr5.size) (htab.on hfr5.1) Hbd.out).mono ?_
        rintro e w4 ⟨v4, rfl, hown4, hfr6⟩
        go_wp2_with fail
        go_roundg (ps.length - (k + 1))
        case measure => have := Hgk.out; omega
        case rel => exact ⟨k + 1, _, by go_num, by omega, rfl, hown4, hfr5.trans hfr6, Hch.out, Hfr.out, Hnew.out⟩
    · have hdp : ps.drop k = [] := List.drop_of_length_le (by omega)
      rw [hdp, wrObj] at hch
      have Hend := Lib.hid hch
      have hltk : ¬ k < ks.length := by omega
      clear hch hdp
      go_wp2_with (at_builtin
                   refine wpList_put rfl _ _ rfl B u0 l' [125] _ rfl (by rfl) hown' 1 rfl _ (by rfl) (by simp) (by simp; omega) hBr ?_
                   intro v3 w3 hown3 hfr3)
      go_ret
      exact ⟨_, rfl, by rw [← Hend.out]; exact hown3, hfr'.trans hfr3⟩

attribute [local go_sem high] str_mk
set_option maxRecDepth 100000 in
set_option maxHeartbeats 4000000 in
theorem write_step (f : Nat) (ih : WriteOk f) : WriteOk (f + 1) := by
  intro v d cs sv l B w hdf hd6 hft hv hown hB htab hl
  cases v with
  | mk k n t ks ps =>
  unfold VIn at hv
  obtain ⟨Ak, ck, Ap, cp, pc, rfl, hk1, hn1, ht, hks, hps, hkl, hck, hcp, hh1, hh2, hpin⟩ := hv
  obtain ⟨ha, hfs⟩ := fault_parts hft
  obtain ⟨hd5, hk1', hk7, hobj, hnlo, hnhi, _⟩ := alone_facts ha
  have Hw := Lib.hid (show wr l (.mk k n t ks ps) = if k = 1 then l ++ tNull else if k = 2 then l ++ tFalse else if k = 3 then l ++ tTrue else if k = 4 then l ++ Lib.itoa n else if k = 5 then wrStr l t
    else if k = 6 then wrArr true (l ++ [91]) ps ++ [93] else wrObj true (l ++ [123]) ks ps ++ [125] by rw [wr])
  rw [count] at hl
  have Hfs := Lib.hid hfs
  have Hobj := Lib.hid hobj
  clear hobj hfs hft ha
  have hBa : B ≤ (w.alloc (.cells #[.int .i64 k, .int .i64 n, str t, .slice Ak ks.length ck, .slice Ap ps.length cp] 25)).heap.size := by simp; omega
  have HBa := Lib.hid hBa
  clear hBa
  have hfa : WFr B w (w.alloc (.cells #[.int .i64 k, .int .i64 n, str t, .slice Ak ks.length ck, .slice Ap ps.length cp] 25)) := (WFr.refl B w).alloc hB _
  have hta := htab.on hfa.1
  rcases (by omega : k = 1 ∨ k = 2 ∨ k = 3 ∨ k = 4 ∨ k = 5 ∨ k = 6 ∨ k = 7) with rfl | rfl | rfl | rfl | rfl | rfl | rfl
  · go_enter Tryz.func35, Tryz.ntmps35
    go_wp2_with (at_builtin
                 refine wpList_putS rfl _ _ rfl B sv l tNull (by rfl) (hown.alloc _) (by rfl) (by simp [tNull]; omega) HBa.out ?_
                 intro v1 w1 hown1 hfr1)
    go_ret
    exact ⟨_, rfl, by rw [Hw.out]; exact hown1, hfa.trans hfr1⟩
  · go_enter Tryz.func35, Tryz.ntmps35
    go_wp2_with (at_builtin
                 refine wpList_putS rfl _ _ rfl B sv l tFalse (by rfl) (hown.alloc _) (by rfl) (by simp [tFalse]; omega) HBa.out ?_
                 intro v1 w1 hown1 hfr1)
    go_ret
    exact ⟨_, rfl, by rw [Hw.out]; exact hown1, hfa.trans hfr1⟩
  · go_enter Tryz.func35, Tryz.ntmps35
    go_wp2_with (at_builtin
                 refine wpList_putS rfl _ _ rfl B sv l tTrue (by rfl) (hown.alloc _) (by rfl) (by simp [tTrue]; omega) HBa.out ?_
                 intro v1 w1 hown1 hfr1)
    go_ret
    exact ⟨_, rfl, by rw [Hw.out]; exact hown1, hfa.trans hfr1⟩
  · go_enter Tryz.func35, Tryz.ntmps35
    go_wp2_with fail
    refine (Tryz.strconv_AppendInt_10 B l.length n (by omega) (by omega) sv (l.map bv) _ (hown.alloc _) HBa.out (by omega) hta).mono ?_
    rintro e w1 ⟨v1, rfl, hown1, hb1, hok1⟩
    go_wp2_with fail
    go_ret
    refine ⟨_, rfl, ?_, hfa.trans ⟨hb1, hok1⟩⟩
    rw [Hw.out]
    show Own w1 B v1 (l ++ Lib.itoa n)
    unfold Own
    have : (l ++ Lib.itoa n).map bv = l.map bv ++ Lib.byteCells (Lib.itoa n) := by rw [List.map_append]; rfl
    rw [this, List.length_append]
    exact hown1
  · go_enter Tryz.func35, Tryz.ntmps35
    go_wp2_with fail
    refine (string_any sv t l B _ (hown.alloc _) HBa.out (by omega) ht).mono ?_
    rintro e w1 ⟨v1, rfl, hown1, hfr1⟩
    go_wp2_with fail
    go_ret
    exact ⟨_, rfl, by rw [Hw.out]; exact hown1, hfa.trans hfr1⟩
  · go_enter Tryz.func35, Tryz.ntmps35
    go_wp2_with fail
    refine (array_any f ih ps (d + 1) Ap cp pc sv l B _ (by omega) (by omega) Hfs.out (hh2.below hfa.1) (hpin.below hfa.1) hps (hown.alloc _) HBa.out hta (by omega)).mono ?_
    rintro e w1 ⟨v1, rfl, hown1, hfr1⟩
    go_wp2_with fail
    go_ret
    exact ⟨_, rfl, by rw [Hw.out]; exact hown1, hfa.trans hfr1⟩
  · have Hlen := Lib.hid (Hobj.out rfl).1
    go_enter Tryz.func35, Tryz.ntmps35
    go_wp2_with fail
    refine (object_any f ih ks ps (d + 1) Ak ck Ap cp pc sv l B _ (by omega) (by omega) Hfs.out Hlen.out (hh1.below hfa.1) hkl (hh2.below hfa.1) (hpin.below hfa.1) hps (hown.alloc _) HBa.out hta (by omega)).mono ?_
    rintro e w1 ⟨v1, rfl, hown1, hfr1⟩
    go_wp2_with fail
    go_ret
    exact ⟨_, rfl, by rw [Hw.out]; exact hown1, hfa.trans hfr1⟩
theorem write_any : ∀ f, WriteOk f
  | 0 => fun v d cs sv l B w h1 h2 => by omega
  | f + 1 => write_step f (write_any f)
end Go.Proofs.YtbdbcffnjibjoaaGreatDoor
