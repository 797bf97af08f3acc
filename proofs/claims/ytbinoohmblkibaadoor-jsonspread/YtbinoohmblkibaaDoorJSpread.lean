/- spread of the statements: what the call returns. -/
import Derived.Test.YtbinoohmblkibaaDoorJSpr
import Derived.Test.YtbinoohmblkibaaDoorJOk
import Derived.Test.YtbinoohmblkibaaDoorJSame
import Derived.Test.YtbinoohmblkibaaDoorJSure
namespace Go.Proofs.YtbinoohmblkibaaDoor
set_option linter.unusedVariables false
set_option linter.unusedSimpArgs false
open Go.RowKit

theorem strK_text (t : List UInt8) : jtext (.mk 5 0 t [] []) = quo t := by rw [jtext]; rfl
theorem key_len {x : List UInt8} (h : checkN (.mk 5 0 x [] []) = 0) : (quo x).length ≤ 600 := by
  have := check_len h; rwa [strK_text] at this
mutual
theorem sp_bd (g : List UInt8) (hg : g.length ≤ 3) : ∀ v : JV, (sp g v).length + 700 ≤ 1400 * count v
  | .mk k n t ks ps => by
    have ha := spA_bd g hg ps true
    rw [sp, count]
    by_cases h6 : k = 6
    · rw [if_pos h6]; simp only [List.length_cons, List.length_append, List.length_nil]; omega
    rw [if_neg h6]
    by_cases h7 : k = 7
    · rw [if_pos h7]
      split
      · rename_i hk
        have ho := spO_bd g hg ps ks hk
        simp only [List.length_cons, List.length_append, List.length_nil]; omega
      · simp; omega
    · rw [if_neg h7]
      split
      · rename_i hc; have := check_len hc; omega
      · simp; omega
theorem spA_bd (g : List UInt8) (hg : g.length ≤ 3) : ∀ (ps : List JV) (f : Bool), (spA g f ps).length ≤ 1400 * counts ps
  | [], f => by rw [spA]; simp
  | p :: r, f => by
    have h1 := sp_bd g hg p
    have h2 := spA_bd g hg r false
    rw [spA, counts]
    cases f <;> simp only [List.length_cons, List.length_append, List.length_nil, if_true, if_false, Bool.false_eq_true] <;> omega
theorem spO_bd (g : List UInt8) (hg : g.length ≤ 3) : ∀ (ps : List JV) (ks : List (List UInt8)), (∀ x ∈ ks, checkN (.mk 5 0 x [] []) = 0) → (spO g ks ps).length ≤ 1400 * counts ps
  | [], ks, _ => by cases ks <;> rw [spO] <;> simp
  | p :: r, [], _ => by rw [spO] <;> simp
  | p :: r, k :: ks, hk => by
    have h1 := sp_bd g hg p
    have h2 := spO_bd g hg r ks (fun x hx => hk x (by simp [hx]))
    have h3 := key_len (hk k (by simp))
    rw [spO, counts]
    cases r.isEmpty <;> simp only [List.length_cons, List.length_append, List.length_nil, if_true, if_false, Bool.false_eq_true] <;> omega
end
theorem counts_dropLe : ∀ (ps : List JV) (m : Nat), counts (ps.drop m) ≤ counts ps
  | ps, 0 => by simp
  | [], m + 1 => by simp
  | p :: r, m + 1 => by have := counts_dropLe r m; simp [counts]; omega
theorem spA_drop (g : List UInt8) (f : Bool) (ps : List JV) (i : Nat) (hi : i < ps.length) : spA g f (ps.drop i) = (if f then [] else 44 :: g) ++ (g ++ (sp g ps[i] ++ spA g false (ps.drop (i + 1)))) := by
  rw [List.drop_eq_getElem_cons hi, spA]
theorem spO_drop (g : List UInt8) (ks : List (List UInt8)) (ps : List JV) (m : Nat) (hk : m < ks.length) (hp : m < ps.length) :
    spO g (ks.drop m) (ps.drop m) = spO g (ks.drop (m + 1)) (ps.drop (m + 1)) ++ ((if (ps.drop (m + 1)).isEmpty then [] else g ++ [44]) ++ (g ++ (quo ks[m] ++ (g ++ (58 :: (g ++ sp g ps[m])))))) := by
  rw [List.drop_eq_getElem_cons hk, List.drop_eq_getElem_cons hp, spO]

theorem add3 {P : Program} (t : TypeId) (a b : List UInt8) (h : a.length + b.length ≤ 1048576) : ∀ W, (binOp .add t (str a) (str b)).run P W = .ok (str (a ++ b)) W := fun W => run_str_add W t a b h
def SprA (g : List UInt8) (ps : List JV) (w : World) (gk : Nat) (out i : Value) (wr : World) : Prop :=
  ∃ (j : Nat) (o : List UInt8), out = str o ∧ i = .int .i64 j ∧ j ≤ ps.length ∧ gk = ps.length - j ∧ o ++ spA g (decide (j = 0)) (ps.drop j) = 91 :: spA g true ps ∧ Below w.heap.size w wr
def SprO (g : List UInt8) (ks : List (List UInt8)) (ps : List JV) (w : World) (gk : Nat) (out i : Value) (wr : World) : Prop :=
  ∃ (m : Nat) (o : List UInt8), out = str o ∧ i = .int .i64 ((m : Int) - 1) ∧ m ≤ ps.length ∧ gk = m ∧ o = 123 :: spO g (ks.drop m) (ps.drop m) ∧ (∀ x ∈ ks.drop m, checkN (.mk 5 0 x [] []) = 0) ∧ Below w.heap.size w wr

attribute [local go_sem high] str_mk
set_option maxRecDepth 100000 in
set_option maxHeartbeats 4000000 in
theorem spread_any (g : List UInt8) (hg3 : g.length ≤ 3) (f : Nat) : ∀ (v : JV) (cs : List Value) (w : World) (B : Nat), count v ≤ f → count v ≤ 700 → Fine v → B ≤ w.heap.size → VIn w B v cs → Tab w.heap.size w →
    Calls Tryd.prog 20 #[.agg cs.toArray, str g] w fun e w' => e = .returned (str (sp g v)) ∧ Below w.heap.size w w' := by
  induction f with
  | zero => intro v cs w B h; cases v; simp [count] at h
  | succ f ih =>
    intro v cs w B hf h700 hfine hB hv htab
    have hv0 := hv
    have hbd := sp_bd g hg3 v
    cases v with
    | mk k n t ks ps =>
    have hfi := hfine
    unfold Fine at hfi
    obtain ⟨ha, hfs⟩ := hfi
    obtain ⟨_, hk1, hk7, hobj, hn1, hn2, hu⟩ := alone_facts ha
    unfold VIn at hv
    obtain ⟨Ak, ck, Ap, cp, pc, rfl, _, _, ht, hks, hps, hkl, hck, hcp, hh1, hh2, hpin⟩ := hv
    have Hf := Lib.hid hf
    have Hbd := Lib.hid hbd
    clear hf hbd
    have HW := Lib.hid (show Below w.heap.size w (w.alloc (.cells #[.int .i64 k, .int .i64 n, str t, .slice Ak ks.length ck, .slice Ap ps.length cp] 25)) from (Below.refl _ _).alloc (Nat.le_refl _) _)
    have HA := Lib.hid (Blk.new w 25 #[.int .i64 k, .int .i64 n, str t, .slice Ak ks.length ck, .slice Ap ps.length cp])
    have Hobj := Lib.hid hobj
    clear hobj
    by_cases h6 : k = 6
    · subst h6
      have Hsp := Lib.hid (sp_arr g n t ks ps)
      go_enter Tryd.func20, Tryd.ntmps20
      go_wp2_with fail
      have hW := HW.out
      have hbA := HA.out
      have hsz : (w.alloc (.cells #[.int .i64 6, .int .i64 n, str t, .slice Ak ks.length ck, .slice Ap ps.length cp] 25)).heap.size = w.heap.size + 1 := by simp
      generalize (w.alloc (.cells #[.int .i64 6, .int .i64 n, str t, .slice Ak ks.length ck, .slice Ap ps.length cp] 25)) = W0 at *
      clear HW HA
      have hcnt : (91 :: spA g true ps).length ≤ 1000000 := by
        have := spA_bd g hg3 ps true
        simp only [count] at h700
        simp only [List.length_cons]; omega
      have Hcnt := Lib.hid hcnt
      clear hcnt
      go_loopg [5, 6] ps.length (SprA g ps W0)
      case atStart => exact ⟨0, [91], rfl, rfl, by omega, by omega, by simp, Below.refl _ _⟩
      case round =>
        obtain ⟨j, o, rfl, rfl, hj, hgj, ho, hbw⟩ := hrel
        have Hgj := Lib.hid hgj
        have Ho := Lib.hid ho
        have hol : o.length ≤ 1000000 := by have h1 := Hcnt.out; rw [← ho, List.length_append] at h1; omega
        clear hgj ho
        have hbAr := hbA.below hbw (by omega)
        have a4 : wr.cell? ⟨w.heap.size, 4, none⟩ = some (.slice Ap ps.length cp) := hbAr.cell 4
        have hwr : Below w.heap.size w wr := hW.trans (hbw.mono hW.size)
        by_cases hlt : j < ps.length
        · have hh2r := hh2.below (hwr.mono hB)
          have hpr := hpin.below (hwr.mono hB)
          obtain ⟨b, off, k1, n1, t1, Ak1, nk1, ck1, Ap1, np1, cp1, rfl, hb, hv1, x0, x1, x2, x3, x4⟩ := part_cells hh2r hpr j hlt
          have hd := spA_drop g (decide (j = 0)) ps j hlt
          have hcv : count ps[j] ≤ f := by have := Hf.out; have := count_part j hlt; simp [count] at *; omega
          have hc7 : count ps[j] ≤ 700 := by have := count_part j hlt; simp [count] at *; omega
          have hfp := fines_mem hfs (List.getElem_mem hlt)
          have hxb := sp_bd g hg3 ps[j]
          have hxl : (sp g ps[j]).length ≤ 980000 := by omega
          have htr := (htab.on hwr).here
          generalize ps[j] = p at *
          have Hih := Lib.hid (ih p _ wr B hcv hc7 hfp (Nat.le_trans hB hwr.size) hv1 htr)
          have Htot := Lib.hid (show (o ++ ((if decide (j = 0) = true then [] else 44 :: g) ++ (g ++ sp g p))) ++ spA g false (ps.drop (j + 1)) = 91 :: spA g true ps by rw [← Ho.out, hd]; simp)
          have htl : (o ++ ((if decide (j = 0) = true then [] else 44 :: g) ++ (g ++ sp g p))).length ≤ 1000000 := by
            have h1 := Hcnt.out; rw [← Htot.out, List.length_append] at h1; omega
          clear hd Ho hh2r hpr hv1 hcv hc7 hfp hxb hbAr
          generalize sp g p = x at *
          by_cases hj0 : j = 0
          · subst hj0
            have c1 := add3 (P := Tryd.prog) 9 g x (by omega)
            have c2 := add3 (P := Tryd.prog) 9 o (g ++ x) (by simp at htl ⊢; omega)
            have y0 : wr.cell? ⟨b, off, none⟩ = some (.int .i64 k1) := by simpa using x0
            have y1 : wr.cell? ⟨b, off + 1, none⟩ = some (.int .i64 n1) := by simpa using x1
            have y2 : wr.cell? ⟨b, off + 2, none⟩ = some (str t1) := by simpa using x2
            have y3 : wr.cell? ⟨b, off + 3, none⟩ = some (.slice Ak1 nk1 ck1) := by simpa using x3
            have y4 : wr.cell? ⟨b, off + 4, none⟩ = some (.slice Ap1 np1 cp1) := by simpa using x4
            generalize hgx : g ++ x = gx at *
            have Hgx := Lib.hid hgx
            clear hgx x0 x1 x2 x3 x4
            go_wp2_with fail
            refine Hih.out.mono ?_
            rintro e w3 ⟨rfl, hb3⟩
            go_wp2_with fail
            go_roundg (ps.length - 1)
            case measure => have := Hgj.out; omega
            case rel => exact ⟨1, o ++ gx, rfl, rfl, by omega, rfl, by have := Htot.out; simp at this ⊢; exact this, hbw.trans (hb3.mono hbw.size)⟩
          · have hj1 : 0 < j := by omega
            have hj1' : (0 : Int) < (j : Int) := by omega
            have c0 := add3 (P := Tryd.prog) 9 [44] g (by simp; omega)
            have c00 := add3 (P := Tryd.prog) 9 o ([44] ++ g) (by simp; omega)
            have c1 := add3 (P := Tryd.prog) 9 g x (by omega)
            have c2 := add3 (P := Tryd.prog) 9 (o ++ ([44] ++ g)) (g ++ x) (by simp [hj0] at htl ⊢; omega)
            generalize hgx : g ++ x = gx at *
            generalize hog : o ++ ([44] ++ g) = og at *
            generalize hcg : [44] ++ g = cg at *
            have Hgx := Lib.hid hgx
            have Hog := Lib.hid hog
            have Hcg := Lib.hid hcg
            have Hj0 := Lib.hid hj0
            clear hgx hog hcg hj0
            go_wp2_with fail
            refine Hih.out.mono ?_
            rintro e w3 ⟨rfl, hb3⟩
            go_wp2_with fail
            go_roundg (ps.length - (j + 1))
            case measure => have := Hgj.out; omega
            case rel =>
              refine ⟨j + 1, og ++ gx, rfl, by go_num, by omega, rfl, ?_, hbw.trans (hb3.mono hbw.size)⟩
              have h1 := Htot.out
              rw [decide_eq_false Hj0.out] at h1
              rw [decide_eq_false (by omega), ← Hog.out, ← Hcg.out]
              simp at h1 ⊢
              exact h1
        · have Hfin := Lib.hid (show o = 91 :: spA g true ps by rw [← Ho.out, List.drop_eq_nil_of_le (by omega)]; rw [spA]; simp)
          have c1 := add3 (P := Tryd.prog) 9 o g (by omega)
          have c2 := add3 (P := Tryd.prog) 9 (o ++ g) [93] (by simp; omega)
          generalize hog : o ++ g = og at *
          have Hog := Lib.hid hog
          clear hog
          go_wp2_with fail
          go_ret
          exact ⟨by rw [Hsp.out, ← Hog.out, Hfin.out]; simp, hwr⟩
    by_cases h7 : k = 7
    · subst h7
      obtain ⟨hkp, hinc⟩ := Hobj.out rfl
      have Hkp := Lib.hid hkp
      clear hkp hinc
      go_enter Tryd.func20, Tryd.ntmps20
      go_wp2_with fail
      have hW := HW.out
      have hbA := HA.out
      have hsz : (w.alloc (.cells #[.int .i64 7, .int .i64 n, str t, .slice Ak ks.length ck, .slice Ap ps.length cp] 25)).heap.size = w.heap.size + 1 := by simp
      generalize (w.alloc (.cells #[.int .i64 7, .int .i64 n, str t, .slice Ak ks.length ck, .slice Ap ps.length cp] 25)) = W0 at *
      clear HW HA
      go_loopg [7, 8] ps.length (SprO g ks ps W0)
      case atStart =>
        refine ⟨ps.length, [123], rfl, rfl, Nat.le_refl _, rfl, ?_, ?_, Below.refl _ _⟩
        · rw [List.drop_eq_nil_of_le (Nat.le_refl _)]; rw [spO]
        · rw [List.drop_eq_nil_of_le (by have := Hkp.out; omega)]; simp
      case round =>
        obtain ⟨m, o, rfl, rfl, hm, hgm, ho, hok, hbw⟩ := hrel
        have Hgm := Lib.hid hgm
        have Ho := Lib.hid ho
        have Hok := Lib.hid hok
        have hol : o.length ≤ 1000000 := by
          have h1 := spO_bd g hg3 (ps.drop m) (ks.drop m) hok
          have h2 := counts_dropLe ps m
          simp only [count] at h700
          rw [ho, List.length_cons]; omega
        clear hgm ho hok
        have hbAr := hbA.below hbw (by omega)
        have a3 : wr.cell? ⟨w.heap.size, 3, none⟩ = some (.slice Ak ks.length ck) := hbAr.cell 3
        have a4 : wr.cell? ⟨w.heap.size, 4, none⟩ = some (.slice Ap ps.length cp) := hbAr.cell 4
        have hwr : Below w.heap.size w wr := hW.trans (hbw.mono hW.size)
        cases m with
        | zero =>
          have Hfin := Lib.hid (show o ++ g ++ [125] = sp g (.mk 7 n t ks ps) by
            rw [sp_obj g n t ks ps (by simpa using Hok.out), Ho.out]; simp)
          have c1 := add3 (P := Tryd.prog) 9 o g (by omega)
          have c2 := add3 (P := Tryd.prog) 9 (o ++ g) [125] (by simp; omega)
          rw [Hfin.out] at c2
          generalize hog : o ++ g = og at *
          have Hog := Lib.hid hog
          clear hog
          go_wp2_with fail
          go_ret
          exact ⟨rfl, hwr⟩
        | succ q =>
          have hqk : q < ks.length := by have := Hkp.out; omega
          have hqp : q < ps.length := by omega
          have hsl : (((q + 1 : Nat) : Int) - 1) = (q : Int) := by omega
          rw [hsl]
          clear hsl
          obtain ⟨bk, offk, hlk, rfl, hbk, hck⟩ := (hh1.below (hwr.mono hB)).str hqk
          obtain ⟨b, off, k1, n1, t1, Ak1, nk1, ck1, Ap1, np1, cp1, rfl, hb, hv1, x0, x1, x2, x3, x4⟩ := part_cells (hh2.below (hwr.mono hB)) (hpin.below (hwr.mono hB)) q hqp
          have hd := spO_drop g ks ps q hqk hqp
          have hcv : count ps[q] ≤ f := by have := Hf.out; have := count_part q hqp; simp [count] at *; omega
          have hc7 : count ps[q] ≤ 700 := by have := count_part q hqp; simp [count] at *; omega
          have hfp := fines_mem hfs (List.getElem_mem hqp)
          have hxb := sp_bd g hg3 ps[q]
          have hxl : (sp g ps[q]).length ≤ 980000 := by omega
          have hkm : ks[q] ∈ ks := List.getElem_mem hqk
          have hkl1 := hkl _ hkm
          have hdk : ks.drop q = ks[q] :: ks.drop (q + 1) := List.drop_eq_getElem_cons hqk
          have Hih := Lib.hid (fun W (hbW : Below w.heap.size w W) (hvW : VIn W B ps[q] [.int .i64 k1, .int .i64 n1, str t1, .slice Ak1 nk1 ck1, .slice Ap1 np1 cp1]) => ih ps[q] _ W B hcv hc7 hfp (Nat.le_trans hB hbW.size) hvW (htab.on hbW).here)
          have Hdk := Lib.hid hdk
          have Hd := Lib.hid hd
          have hemp : (ps.drop (q + 1)).isEmpty = decide (q + 1 = ps.length) := by
            rw [Bool.eq_iff_iff]; simp; omega
          rw [hemp] at Hd
          have hlast : decide ((q : Int) < (ps.length : Int) - 1) = !decide (q + 1 = ps.length) := by
            rw [Bool.eq_iff_iff]; simp; omega
          have Htot := Lib.hid (show (∀ x ∈ ks.drop q, checkN (.mk 5 0 x [] []) = 0) → (123 :: spO g (ks.drop q) (ps.drop q)).length ≤ 1000000 by
            intro hk
            have h1 := spO_bd g hg3 (ps.drop q) (ks.drop q) hk
            have h2 := counts_dropLe ps q
            simp only [count] at h700
            rw [List.length_cons]; omega)
          clear hd hcv hc7 hfp hxb hdk hemp hbAr
          generalize hpq : ps[q] = p at *
          generalize hkq : ks[q] = key at *
          have Hkq := Lib.hid hkm
          clear hpq hkq hkm
          obtain ⟨kb, hkb⟩ := str_open key
          have Hkb := Lib.hid hkb
          rw [hkb] at hck
          clear hkb
          have hvk : ∀ W, VIn W 0 (.mk 5 0 key [] []) [.int .i64 5, .int .i64 0, str key, .slice none 0 0, .slice none 0 0] := fun W => VInS.toB (S := fun _ => False) (fun b h => h.elim) _ _ (vin_str W _ key hkl1)
          have htr := (htab.on hwr).here
          by_cases hend : q + 1 = ps.length
          · rw [decide_eq_true hend] at Hd hlast
            have hl2 : decide ((q : Int) < (ps.length : Int) - 1) = false := hlast
            have hend' : ¬ ((q : Int) < (ps.length : Int) - 1) := by omega
            clear hlast
            go_wp2_with fail
            rw [← Hkb.out]
            refine (Text_any (.mk 5 0 key [] []) _ wr 0 (Nat.zero_le _) (hvk _) htr (by simp [count, counts])).mono ?_
            rintro e w3 ⟨rfl, hb3⟩
            rw [show textR (.mk 5 0 key [] []) = .tuple #[if checkN (.mk 5 0 key [] []) = 0 then str (jtext (.mk 5 0 key [] [])) else str [], .int .i64 (checkN (.mk 5 0 key [] []))] from rfl]
            have hw3 : Below w.heap.size w w3 := hwr.trans (hb3.mono hwr.size)
            by_cases hc0 : checkN (.mk 5 0 key [] []) = 0
            · have hq6 := key_len hc0
              rw [if_pos hc0, hc0, strK_text]
              have Hok2 := Lib.hid (show ∀ x ∈ ks.drop q, checkN (.mk 5 0 x [] []) = 0 by
                rw [Hdk.out]; intro x hx
                rcases List.mem_cons.1 hx with rfl | hx
                · exact hc0
                · exact Hok.out x hx)
              have Hnew := Lib.hid (show o ++ (((((g ++ quo key) ++ g) ++ [58]) ++ g) ++ sp g p) = 123 :: spO g (ks.drop q) (ps.drop q) by
                rw [Hd.out, Ho.out]; simp)
              have hnl := Htot.out Hok2.out
              rw [← Hnew.out] at hnl
              have hz3 := hb3.size
              have hWr : W0.heap.size ≤ wr.heap.size := hbw.size
              have z4 : w3.cell? ⟨w.heap.size, 4, none⟩ = some (.slice (some ⟨b, off, none⟩) ps.length cp) := (hb3.cell (show w.heap.size < wr.heap.size by omega)).trans a4
              have hbl : b < wr.heap.size := by have := hwr.size; omega
              have z0' := (hb3.cell (p := ⟨b, off + q * 5, none⟩) hbl).trans x0
              have z1' := (hb3.cell (p := ⟨b, off + q * 5 + 1, none⟩) hbl).trans x1
              have z2' := (hb3.cell (p := ⟨b, off + q * 5 + 2, none⟩) hbl).trans x2
              have z3' := (hb3.cell (p := ⟨b, off + q * 5 + 3, none⟩) hbl).trans x3
              have z4' := (hb3.cell (p := ⟨b, off + q * 5 + 4, none⟩) hbl).trans x4
              have hv3 := hv1.below (hb3.mono (by have := hwr.size; omega))
              generalize quo key = Q at *
              generalize hX : sp g p = X at *
              have HX := Lib.hid hX
              have d1 := add3 (P := Tryd.prog) 9 g Q (by simp only [List.length_append] at hnl; omega)
              have d2 := add3 (P := Tryd.prog) 9 (g ++ Q) g (by simp only [List.length_append] at hnl ⊢; omega)
              have d3 := add3 (P := Tryd.prog) 9 (g ++ Q ++ g) [58] (by simp only [List.length_append, List.length_cons, List.length_nil] at hnl ⊢; omega)
              have d4 := add3 (P := Tryd.prog) 9 (g ++ Q ++ g ++ [58]) g (by simp only [List.length_append, List.length_cons, List.length_nil] at hnl ⊢; omega)
              have d5 := add3 (P := Tryd.prog) 9 (g ++ Q ++ g ++ [58] ++ g) X (by simp only [List.length_append, List.length_cons, List.length_nil] at hnl ⊢; omega)
              have d6 := add3 (P := Tryd.prog) 9 o (g ++ Q ++ g ++ [58] ++ g ++ X) (by simp only [List.length_append, List.length_cons, List.length_nil] at hnl ⊢; omega)
              generalize g ++ Q ++ g ++ [58] ++ g ++ X = e5 at *
              generalize g ++ Q ++ g ++ [58] ++ g = e4 at *
              generalize g ++ Q ++ g ++ [58] = e3 at *
              generalize g ++ Q ++ g = e2 at *
              generalize g ++ Q = e1 at *
              clear x0 x1 x2 x3 x4 a3 a4 hck hX hc0 hnl hv1
              go_wp2_with fail
              refine (Hih.out w3 hw3 hv3).mono ?_
              rintro e w4 ⟨rfl, hb4⟩
              go_wp2_with fail
              go_roundg q
              case measure => have := Hgm.out; omega
              case rel => exact ⟨q, _, rfl, rfl, by omega, rfl, Hnew.out, Hok2.out, (hbw.trans (hb3.mono hbw.size)).trans (hb4.mono (by omega))⟩
            · have Hbad := Lib.hid (show sp g (.mk 7 n t ks ps) = [] by
                rw [sp, if_neg (by decide), if_pos rfl, if_neg]
                intro h; exact hc0 (h key Hkq.out))
              rw [if_neg hc0]
              generalize checkN (.mk 5 0 key [] []) = a at *
              have hab : (a != 0) = true := by simpa using hc0
              go_wp2_with fail
              go_ret
              exact ⟨by rw [Hbad.out]; rfl, hw3⟩
          · rw [decide_eq_false hend] at Hd hlast
            have hl2 : decide ((q : Int) < (ps.length : Int) - 1) = true := hlast
            have hend' : ((q : Int) < (ps.length : Int) - 1) := by omega
            have c1 := add3 (P := Tryd.prog) 9 g [44] (by simp; omega)
            have c2 := add3 (P := Tryd.prog) 9 o (g ++ [44]) (by simp; omega)
            generalize hog : o ++ (g ++ [44]) = og at *
            have Hog := Lib.hid hog
            clear hlast hog
            go_wp2_with fail
            rw [← Hkb.out]
            refine (Text_any (.mk 5 0 key [] []) _ wr 0 (Nat.zero_le _) (hvk _) htr (by simp [count, counts])).mono ?_
            rintro e w3 ⟨rfl, hb3⟩
            rw [show textR (.mk 5 0 key [] []) = .tuple #[if checkN (.mk 5 0 key [] []) = 0 then str (jtext (.mk 5 0 key [] [])) else str [], .int .i64 (checkN (.mk 5 0 key [] []))] from rfl]
            have hw3 : Below w.heap.size w w3 := hwr.trans (hb3.mono hwr.size)
            by_cases hc0 : checkN (.mk 5 0 key [] []) = 0
            · have hq6 := key_len hc0
              rw [if_pos hc0, hc0, strK_text]
              have Hok2 := Lib.hid (show ∀ x ∈ ks.drop q, checkN (.mk 5 0 x [] []) = 0 by
                rw [Hdk.out]; intro x hx
                rcases List.mem_cons.1 hx with rfl | hx
                · exact hc0
                · exact Hok.out x hx)
              have Hnew := Lib.hid (show og ++ (((((g ++ quo key) ++ g) ++ [58]) ++ g) ++ sp g p) = 123 :: spO g (ks.drop q) (ps.drop q) by
                rw [Hd.out, ← Hog.out, Ho.out]; simp)
              have hnl := Htot.out Hok2.out
              rw [← Hnew.out] at hnl
              have hz3 := hb3.size
              have hWr : W0.heap.size ≤ wr.heap.size := hbw.size
              have z4 : w3.cell? ⟨w.heap.size, 4, none⟩ = some (.slice (some ⟨b, off, none⟩) ps.length cp) := (hb3.cell (show w.heap.size < wr.heap.size by omega)).trans a4
              have hbl : b < wr.heap.size := by have := hwr.size; omega
              have z0' := (hb3.cell (p := ⟨b, off + q * 5, none⟩) hbl).trans x0
              have z1' := (hb3.cell (p := ⟨b, off + q * 5 + 1, none⟩) hbl).trans x1
              have z2' := (hb3.cell (p := ⟨b, off + q * 5 + 2, none⟩) hbl).trans x2
              have z3' := (hb3.cell (p := ⟨b, off + q * 5 + 3, none⟩) hbl).trans x3
              have z4' := (hb3.cell (p := ⟨b, off + q * 5 + 4, none⟩) hbl).trans x4
              have hv3 := hv1.below (hb3.mono (by have := hwr.size; omega))
              generalize quo key = Q at *
              generalize hX : sp g p = X at *
              have HX := Lib.hid hX
              have d1 := add3 (P := Tryd.prog) 9 g Q (by simp only [List.length_append] at hnl; omega)
              have d2 := add3 (P := Tryd.prog) 9 (g ++ Q) g (by simp only [List.length_append] at hnl ⊢; omega)
              have d3 := add3 (P := Tryd.prog) 9 (g ++ Q ++ g) [58] (by simp only [List.length_append, List.length_cons, List.length_nil] at hnl ⊢; omega)
              have d4 := add3 (P := Tryd.prog) 9 (g ++ Q ++ g ++ [58]) g (by simp only [List.length_append, List.length_cons, List.length_nil] at hnl ⊢; omega)
              have d5 := add3 (P := Tryd.prog) 9 (g ++ Q ++ g ++ [58] ++ g) X (by simp only [List.length_append, List.length_cons, List.length_nil] at hnl ⊢; omega)
              have d6 := add3 (P := Tryd.prog) 9 og (g ++ Q ++ g ++ [58] ++ g ++ X) (by simp only [List.length_append, List.length_cons, List.length_nil] at hnl ⊢; omega)
              generalize g ++ Q ++ g ++ [58] ++ g ++ X = e5 at *
              generalize g ++ Q ++ g ++ [58] ++ g = e4 at *
              generalize g ++ Q ++ g ++ [58] = e3 at *
              generalize g ++ Q ++ g = e2 at *
              generalize g ++ Q = e1 at *
              clear x0 x1 x2 x3 x4 a3 a4 hck hX hc0 hnl hv1
              go_wp2_with fail
              refine (Hih.out w3 hw3 hv3).mono ?_
              rintro e w4 ⟨rfl, hb4⟩
              go_wp2_with fail
              go_roundg q
              case measure => have := Hgm.out; omega
              case rel => exact ⟨q, _, rfl, rfl, by omega, rfl, Hnew.out, Hok2.out, (hbw.trans (hb3.mono hbw.size)).trans (hb4.mono (by omega))⟩
            · have Hbad := Lib.hid (show sp g (.mk 7 n t ks ps) = [] by
                rw [sp, if_neg (by decide), if_pos rfl, if_neg]
                intro h; exact hc0 (h key Hkq.out))
              rw [if_neg hc0]
              generalize checkN (.mk 5 0 key [] []) = a at *
              have hab : (a != 0) = true := by simpa using hc0
              go_wp2_with fail
              go_ret
              exact ⟨by rw [Hbad.out]; rfl, hw3⟩
    · have hb6 : (k == 6) = false := by simpa using h6
      have hb7 : (k == 7) = false := by simpa using h7
      have Hsp := Lib.hid (show sp g (.mk k n t ks ps) = if checkN (.mk k n t ks ps) = 0 then jtext (.mk k n t ks ps) else [] by rw [sp, if_neg h6, if_neg h7])
      have hv1 : VIn (w.alloc (.cells #[.int .i64 k, .int .i64 n, str t, .slice Ak ks.length ck, .slice Ap ps.length cp] 25)) B (.mk k n t ks ps) _ := VIn.kept (fun p hp => World.cell?_alloc_lt _ _ p (by omega)) _ _ hv0
      go_enter Tryd.func20, Tryd.ntmps20
      go_wp2_with fail
      refine (Text_any (.mk k n t ks ps) _ _ B (by simp; omega) hv1 (htab.on HW.out).here (by omega)).mono ?_
      rintro e w3 ⟨rfl, hb3⟩
      have hw3 := HW.out.trans (hb3.mono HW.out.size)
      rw [show textR (.mk k n t ks ps) = .tuple #[if checkN (.mk k n t ks ps) = 0 then str (jtext (.mk k n t ks ps)) else str [], .int .i64 (checkN (.mk k n t ks ps))] from rfl]
      by_cases hck0 : checkN (.mk k n t ks ps) = 0
      · rw [if_pos hck0] at Hsp
        rw [if_pos hck0, hck0]
        clear hck0
        generalize jtext (.mk k n t ks ps) = T at *
        go_wp2_with fail
        go_ret
        exact ⟨by rw [Hsp.out]; rfl, hw3⟩
      · rw [if_neg hck0] at Hsp
        rw [if_neg hck0]
        generalize checkN (.mk k n t ks ps) = a at *
        have hab : (a != 0) = true := by simpa using hck0
        go_wp2_with fail
        go_ret
        exact ⟨by rw [Hsp.out]; rfl, hw3⟩
end Go.Proofs.YtbinoohmblkibaaDoor
