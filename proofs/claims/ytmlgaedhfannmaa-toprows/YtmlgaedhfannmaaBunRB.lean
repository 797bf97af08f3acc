/- Joined texts: RwFind, RwBeg, RwFindR, RwBegR. -/
import Derived.Test.YtmlgaedhfannmaaBunRA
import Derived.Test.YtmlgaedhfannmaaBunRE
import Derived.Test.YtmlgaedhfannmaaRwCopy
import Derived.Test.YtmlgaedhfannmaaRwSetM
/- Sorted tables: Find at every table and key. -/
namespace Go.Proofs.Ytmlgaedhfannmaa
set_option linter.unusedVariables false
set_option linter.unusedSimpArgs false
open Go.RowKit
theorem look_hit {k : List UInt8} : ∀ {l : List Rw} {r : Rw}, srt l → l[plc k l]? = some r → r.key = k → look l k = r.val
  | [], r, _, h, _ => by simp at h
  | q :: l, r, hs, h, hk => by
    cases hq : Op.bytesLess q.key k with
    | true =>
      rw [show plc k (q :: l) = plc k l + 1 by rw [plc, if_pos hq], List.getElem?_cons_succ] at h
      rw [look, if_neg (bl_ne hq), look_hit hs.2 h hk]
    | false =>
      rw [show plc k (q :: l) = 0 by rw [plc, if_neg (by simp [hq])], List.getElem?_cons_zero] at h
      injection h with h
      subst h
      rw [look, if_pos hk]
theorem look_miss {k : List UInt8} : ∀ {l : List Rw}, srt l → (∀ r, l[plc k l]? = some r → r.key ≠ k) → look l k = []
  | [], _, _ => rfl
  | q :: l, hs, h => by
    cases hq : Op.bytesLess q.key k with
    | true =>
      rw [show plc k (q :: l) = plc k l + 1 by rw [plc, if_pos hq], List.getElem?_cons_succ] at h
      rw [look, if_neg (bl_ne hq), look_miss hs.2 h]
    | false =>
      rw [show plc k (q :: l) = 0 by rw [plc, if_neg (by simp [hq])], List.getElem?_cons_zero] at h
      have hne := h q rfl
      apply look_above hs
      cases hk : Op.bytesLess k q.key with
      | true => rfl
      | false => exact absurd (bl_total _ _ hq hk) hne
/-- What Find answers. -/
def findN (l : List Rw) (k : List UInt8) : List UInt8 × Int := if chkT l ≠ 0 then ([], chkT l) else if look l k = [] then ([], 8) else (look l k, 0)
set_option maxHeartbeats 2000000 in
set_option maxRecDepth 100000 in
theorem find_any (A : Option Addr) (n c B : Nat) (l : List Rw) (k : List UInt8) (w : World) (hl : RIn w B A n c l) (hB : B ≤ w.heap.size) (hs : Short l) (hn : n ≤ 9223372036854775807) (hk : k.length ≤ 9223372036854775807) :
    Calls Try.prog 79 #[.slice A n c, str k] w fun e w' => e = .returned (.tuple #[str (findN l k).1, .int .i64 (findN l k).2]) ∧ Below w.heap.size w w' := by
  have hln := hl.1
  obtain ⟨W, hW⟩ : ∃ W, W = w.alloc (.cells #[str k] 9) := ⟨_, rfl⟩
  have hWb : Below w.heap.size w W := by rw [hW]; exact (Below.refl _ _).alloc (Nat.le_refl _) _
  have hBk : Blk W w.heap.size 9 #[str k] := by rw [hW]; exact Blk.new w _ _
  have H1 := Lib.hid (check_any A n c B l W (hl.below (hWb.mono hB)) (by have := hWb.size; omega) hs hn)
  have Hl := Lib.hid hl
  have HWb := Lib.hid hWb
  have HW := Lib.hid hW
  have HBk := Lib.hid hBk
  have hWs := hWb.size
  clear hl hs hW hWb hBk
  by_cases h0 : chkT l = 0
  · have HF := Lib.hid (chkT_fit h0)
    rw [h0] at H1
    have hn40 : n ≤ 40 := by have := HF.out.len; omega
    have H2 := Lib.hid (show ∀ W1, Below W.heap.size W W1 → Calls Try.prog 61 #[.slice A n c, .func (.func 105) #[] #[.pointer (some ⟨w.heap.size, 0, none⟩)]] W1 fun e w' => e = .returned (.int .i64 (plc k l : Nat)) ∧ Below W1.heap.size W1 w' from fun W1 hb1 => by
      have hB1 := HBk.out.below hb1 HBk.out.lt
      have := firstFit_any _ (ge_mono k) A n c B l W1 (Hl.out.below ((HWb.out.trans (hb1.mono hWs)).mono hB)) (by have := hb1.size; omega) HF.out.srt (by omega) _ _ (fits_find hB1.lt (hB1.cell 0))
      simp only [Bool.not_not] at this
      rw [cnt_plc k HF.out.srt] at this
      exact this)
    have hpl := plc_le k l
    rw [hln] at hpl
    by_cases hlen : plc k l = n
    · have HR := Lib.hid (show findN l k = ([], 8) by
        unfold findN
        rw [if_neg (by simp [h0]), if_pos (look_miss HF.out.srt fun r hr => by
          have := (List.getElem?_eq_some_iff.1 hr).1; omega)])
      have hlen2 : ((plc k l : Nat) : Int) = (n : Int) := by omega
      generalize plc k l = P at *
      subst hlen
      go_enter Try.func79, Try.ntmps79
      go_wp2_with fail
      rw [← HW.out]
      refine H1.out.mono ?_
      rintro e w1 ⟨rfl, hb1⟩
      have Hb1 := Lib.hid hb1
      have H2' := Lib.hid (H2.out w1 hb1)
      clear hb1 H1 H2
      go_wp2_with fail
      refine H2'.out.mono ?_
      rintro e w2 ⟨rfl, hb2⟩
      have Hb2 := Lib.hid (HWb.out.trans ((Hb1.out.trans (hb2.mono Hb1.out.size)).mono hWs))
      clear hb2 H2'
      go_wp2_with fail
      go_quiet (fail)
      go_wp2
      go_ret2
      exact ⟨by rw [HR.out] <;> rfl, below_drewN Hb2.out _⟩
    · have hpn : plc k l < n := by omega
      have hpl2 : plc k l < l.length := by omega
      have hlen2 : ¬ ((plc k l : Nat) : Int) = (n : Int) := by omega
      have hlt2 : ((plc k l : Nat) : Int) < (n : Int) := by omega
      obtain ⟨b, off, hA, hbB, c0, c1⟩ := Hl.out.at_ hpl2
      subst hA
      have hgB : b < w.heap.size := by omega
      have HX := Lib.hid (show ∀ W1, Below w.heap.size w W1 → W1.cell? ⟨b, off + plc k l * 2, none⟩ = some (str l[plc k l].key) ∧ W1.cell? ⟨b, off + plc k l * 2 + 1, none⟩ = some (str l[plc k l].val) from fun W1 h => ⟨(h.cell hgB).trans c0, (h.cell hgB).trans c1⟩)
      clear c0 c1
      by_cases hkey : l[plc k l].key = k
      · have hlk : look l k = l[plc k l].val := look_hit HF.out.srt (List.getElem?_eq_getElem hpl2) hkey
        have hgd := HF.out.good _ (List.getElem_mem hpl2)
        have hsh := HF.out.shortR _ (List.getElem_mem hpl2)
        have HR := Lib.hid (show findN l k = (l[plc k l].val, 0) by
          unfold findN
          rw [if_neg (by simp [h0]), hlk, if_neg hgd.2])
        have hkb : (l[plc k l].key == k) = true := by simpa using hkey
        generalize l[plc k l] = r at *
        obtain ⟨rk, rv⟩ := r
        generalize plc k l = P at *
        simp only at hkey hsh hkb
        subst hkey
        have HC := Lib.hid (fun W1 => rwClone_any rv W1 hsh.2)
        clear hlk hgd
        go_enter Try.func79, Try.ntmps79
        go_wp2_with fail
        rw [← HW.out]
        refine H1.out.mono ?_
        rintro e w1 ⟨rfl, hb1⟩
        have Hb1 := Lib.hid hb1
        have H2' := Lib.hid (H2.out w1 hb1)
        clear hb1 H1 H2
        go_wp2_with fail
        refine H2'.out.mono ?_
        rintro e w2 ⟨rfl, hb2⟩
        have hbb := Hb1.out.trans (hb2.mono Hb1.out.size)
        have Hb2 := Lib.hid (HWb.out.trans (hbb.mono hWs))
        have y0 := (HX.out w2 Hb2.out).1
        have y1 := (HX.out w2 Hb2.out).2
        have y2 : w2.cell? ⟨w.heap.size, 0, none⟩ = some (str rk) := (HBk.out.below hbb HBk.out.lt).cell 0
        clear hb2 H2' hbb
        go_wp2_with fail
        go_quiet (fail)
        have z1 := fun q => (HX.out (w2.drewN q) (below_drewN Hb2.out q)).2
        go_wp2_with fail
        refine (HC.out _).mono ?_
        rintro e w3 ⟨rfl, hb3⟩
        go_wp2_with fail
        go_ret2
        exact ⟨by rw [HR.out] <;> rfl, (below_drewN Hb2.out _).trans (hb3.mono Hb2.out.size)⟩
      · have HR := Lib.hid (show findN l k = ([], 8) by
          unfold findN
          rw [if_neg (by simp [h0]), if_pos (look_miss HF.out.srt fun r hr => by
            rw [List.getElem?_eq_getElem hpl2] at hr
            injection hr with hr
            rw [← hr]; exact hkey)])
        have hkb : (l[plc k l].key == k) = false := by simpa using hkey
        generalize l[plc k l] = r at *
        obtain ⟨rk, rv⟩ := r
        generalize plc k l = P at *
        simp only at hkey hkb
        go_enter Try.func79, Try.ntmps79
        go_wp2_with fail
        rw [← HW.out]
        refine H1.out.mono ?_
        rintro e w1 ⟨rfl, hb1⟩
        have Hb1 := Lib.hid hb1
        have H2' := Lib.hid (H2.out w1 hb1)
        clear hb1 H1 H2
        go_wp2_with fail
        refine H2'.out.mono ?_
        rintro e w2 ⟨rfl, hb2⟩
        have hbb := Hb1.out.trans (hb2.mono Hb1.out.size)
        have Hb2 := Lib.hid (HWb.out.trans (hbb.mono hWs))
        have y0 := (HX.out w2 Hb2.out).1
        have y2 : w2.cell? ⟨w.heap.size, 0, none⟩ = some (str k) := (HBk.out.below hbb HBk.out.lt).cell 0
        clear hb2 H2' hbb
        go_wp2_with fail
        go_quiet (fail)
        go_wp2
        go_ret2
        exact ⟨by rw [HR.out] <;> rfl, below_drewN Hb2.out _⟩
  · have HR := Lib.hid (show findN l k = ([], chkT l) by unfold findN; rw [if_pos h0])
    generalize chkT l = x at *
    have h0b : (x == 0) = false := by simpa using h0
    go_enter Try.func79, Try.ntmps79
    go_wp2_with fail
    rw [← HW.out]
    refine H1.out.mono ?_
    rintro e w1 ⟨rfl, hb1⟩
    have Hb1 := Lib.hid hb1
    clear hb1 H1
    go_wp2_with fail
    go_ret2
    exact ⟨by rw [HR.out] <;> rfl, HWb.out.trans (Hb1.out.mono hWs)⟩
end Go.Proofs.Ytmlgaedhfannmaa

/- Sorted tables: Begin at every table and head. -/
namespace Go.Proofs.Ytmlgaedhfannmaa
set_option linter.unusedVariables false
set_option linter.unusedSimpArgs false
open Go.RowKit
/-- What Begin answers. -/
def begN (l : List Rw) (h : List UInt8) : List Rw × Int := if chkT l ≠ 0 then ([], chkT l) else (l.filter (fun r => h.isPrefixOf r.key), 0)
theorem begin_ok {l : List Rw} (h0 : chkT l = 0) (h : List UInt8) : begN l h = (l.filter (fun r => h.isPrefixOf r.key), 0) := by unfold begN; rw [if_neg (by simp [h0])]
set_option maxHeartbeats 2000000 in
set_option maxRecDepth 100000 in
theorem begin_any (A : Option Addr) (n c B : Nat) (l : List Rw) (k : List UInt8) (w : World) (hl : RIn w B A n c l) (hB : B ≤ w.heap.size) (hs : Short l) (hn : n ≤ 9223372036854775807) :
    Calls Try.prog 57 #[.slice A n c, str k] w fun e w' => ∃ v, e = .returned (.tuple #[v, .int .i64 (begN l k).2]) ∧ w'.ownsRow w.heap.size 51 2 v (begN l k).1.length (pcR (begN l k).1) ∧ Below w.heap.size w w' := by
  have hln := hl.1
  obtain ⟨W, hW⟩ : ∃ W, W = w.alloc (.cells #[str k] 9) := ⟨_, rfl⟩
  have hWb : Below w.heap.size w W := by rw [hW]; exact (Below.refl _ _).alloc (Nat.le_refl _) _
  have hBk : Blk W w.heap.size 9 #[str k] := by rw [hW]; exact Blk.new w _ _
  have H1 := Lib.hid (check_any A n c B l W (hl.below (hWb.mono hB)) (by have := hWb.size; omega) hs hn)
  have Hl := Lib.hid hl
  have HWb := Lib.hid hWb
  have HW := Lib.hid hW
  have HBk := Lib.hid hBk
  have hWs := hWb.size
  clear hl hs hW hWb hBk
  by_cases h0 : chkT l = 0
  · have HF := Lib.hid (chkT_fit h0)
    have HR := Lib.hid (begin_ok h0 k)
    rw [h0] at H1
    have hn40 : n ≤ 40 := by have := HF.out.len; omega
    obtain ⟨i0, hi0, _, hzs, _⟩ := info_parts info_row
    have H2 := Lib.hid (show ∀ W1, Below W.heap.size W W1 → Calls Try.prog 61 #[.slice A n c, .func (.func 80) #[] #[.pointer (some ⟨w.heap.size, 0, none⟩)]] W1 fun e w' => e = .returned (.int .i64 (l.countP (fun r => Op.bytesLess r.key k) : Nat)) ∧ Below W1.heap.size W1 w' from fun W1 hb1 => by
      have hB1 := HBk.out.below hb1 HBk.out.lt
      have := firstFit_any _ (ge_mono k) A n c B l W1 (Hl.out.below ((HWb.out.trans (hb1.mono hWs)).mono hB)) (by have := hb1.size; omega) HF.out.srt (by omega) _ _ (fits_beg1 hB1.lt (hB1.cell 0))
      simp only [Bool.not_not] at this
      exact this)
    have H3 := Lib.hid (show ∀ W1, Below W.heap.size W W1 → Calls Try.prog 61 #[.slice A n c, .func (.func 81) #[] #[.pointer (some ⟨w.heap.size, 0, none⟩)]] W1 fun e w' => e = .returned (.int .i64 (l.countP (fun r => !(!Op.bytesLess r.key k && !k.isPrefixOf r.key)) : Nat)) ∧ Below W1.heap.size W1 w' from fun W1 hb1 => by
      have hB1 := HBk.out.below hb1 HBk.out.lt
      exact firstFit_any _ (beg_mono k) A n c B l W1 (Hl.out.below ((HWb.out.trans (hb1.mono hWs)).mono hB)) (by have := hb1.size; omega) HF.out.srt (by omega) _ _ (fits_beg2 hB1.lt (hB1.cell 0)))
    have hle := beg_le k l
    have hle2 : l.countP (fun r => !(!Op.bytesLess r.key k && !k.isPrefixOf r.key)) ≤ n := by rw [← hln]; exact List.countP_le_length
    have HC := Lib.hid (beg_cut k HF.out.srt)
    generalize l.countP (fun r => Op.bytesLess r.key k) = lo at *
    generalize l.countP (fun r => !(!Op.bytesLess r.key k && !k.isPrefixOf r.key)) = hg at *
    have hcl := Hl.out.2.1
    have hcut := fun W1 => run_cut_lh (P := Try.prog) W1 52 51 i0 Try.underlying52 hi0 A n c .i64 .i64 (lo : Int) (hg : Int) lo hg rfl rfl hle (by omega)
    rw [hzs] at hcut
    have hfl : (l.filter (fun r => k.isPrefixOf r.key)).length = hg - lo := by rw [← HC.out, List.length_drop, List.length_take]; omega
    have H4 := Lib.hid (show ∀ W1, Below W.heap.size W W1 → Calls Try.prog 43 #[.slice (cutAt A c lo 2) (hg - lo) (c - lo)] W1 fun e w' => ∃ v, e = .returned v ∧ w'.ownsRow W1.heap.size 51 2 v (begN l k).1.length (pcR (begN l k).1) ∧ Below W1.heap.size W1 w' from fun W1 hb1 => by
      have hr := (Hl.out.below ((HWb.out.trans (hb1.mono hWs)).mono hB)).cut hle hle2
      rw [HR.out, hfl, ← HC.out]
      exact copied_any _ _ _ B _ W1 hr (by have := hb1.size; omega) (fun r hr => HF.out.shortR r (List.mem_of_mem_take (List.mem_of_mem_drop hr))) (by omega))
    have hR2 : (begN l k).2 = 0 := by rw [HR.out]
    rw [hR2]
    generalize (begN l k).1 = X at *
    generalize cutAt A c lo 2 = A2 at *
    clear hR2 hfl HR HC hle2
    go_enter Try.func57, Try.ntmps57
    go_wp2_with fail
    rw [← HW.out]
    refine H1.out.mono ?_
    rintro e w1 ⟨rfl, hb1⟩
    have Hb1 := Lib.hid hb1
    have H2' := Lib.hid (H2.out w1 hb1)
    clear hb1 H1 H2
    go_wp2_with fail
    refine H2'.out.mono ?_
    rintro e w2 ⟨rfl, hb2⟩
    have Hb2 := Lib.hid (Hb1.out.trans (hb2.mono Hb1.out.size))
    have H3' := Lib.hid (H3.out w2 Hb2.out)
    clear hb2 H2' H3
    go_wp2_with fail
    refine H3'.out.mono ?_
    rintro e w3 ⟨rfl, hb3⟩
    have Hb3 := Lib.hid (Hb2.out.trans (hb3.mono Hb2.out.size))
    have H4' := Lib.hid (H4.out w3 Hb3.out)
    clear hb3 H3' H4
    go_wp2_with fail
    refine H4'.out.mono ?_
    rintro e w4 ⟨v, rfl, ho, hb4⟩
    have Ho := Lib.hid ho
    have Hw3 := Lib.hid (HWb.out.trans (Hb3.out.mono hWs))
    have Hb4 := Lib.hid (Hw3.out.trans (hb4.mono Hw3.out.size))
    clear ho hb4
    go_wp2_with fail
    go_ret2
    exact ⟨v, rfl, rw_le Ho.out Hw3.out.size, Hb4.out⟩
  · have HR := Lib.hid (show begN l k = ([], chkT l) by unfold begN; rw [if_pos h0])
    generalize chkT l = x at *
    have h0b : (x == 0) = false := by simpa using h0
    go_enter Try.func57, Try.ntmps57
    go_wp2_with fail
    rw [← HW.out]
    refine H1.out.mono ?_
    rintro e w1 ⟨rfl, hb1⟩
    have Hb1 := Lib.hid hb1
    clear hb1 H1
    go_wp2_with fail
    go_ret2
    exact ⟨.slice none 0 0, by rw [HR.out] <;> rfl, by rw [HR.out]; exact World.ownsRow_nil _ _ _ _, HWb.out.trans (Hb1.out.mono hWs)⟩
end Go.Proofs.Ytmlgaedhfannmaa

/- Sorted tables, the reference: RowsFind at every table and key. -/
namespace Go.Proofs.Ytmlgaedhfannmaa
set_option linter.unusedVariables false
set_option linter.unusedSimpArgs false
open Go.RowKit
def RfR (l : List Rw) (k : List UInt8) (w : World) (n : Nat) (gk : Nat) (v : Value) (wr : World) : Prop :=
  ∃ j : Nat, v = .int .i64 (j : Int) ∧ j ≤ n ∧ gk = n - j ∧ look (l.drop j) k = look l k ∧ Below w.heap.size w wr
end Go.Proofs.Ytmlgaedhfannmaa

/- Sorted tables, the reference: rowsBegin, RowsBegin at every table and head. -/
namespace Go.Proofs.Ytmlgaedhfannmaa
set_option linter.unusedVariables false
set_option linter.unusedSimpArgs false
open Go.RowKit
/-- An append, by its run. -/
theorem rb_app {W w' : World} {ops : Array Oper} {rest : List Oper} {o : Oper} {a : Act} {Q : Exit → Act → World → Prop} {v' : Value} (hgd : o.guard = none) (s x : Operand) (t : TypeId)
    (ho : o.op = .call { callee := .builtin .append, args := #[s, x], argTypes := #[t, t] }) (vs vx : Value) (hs : a.eval s = vs) (hx : a.eval x = vx)
    (hrun : (Builtin.append_ #[t, t] o.type #[vs, vx]).run Try.prog W = .ok v' w') (h : wpList Try.prog ops Q rest (a.put o.dst v') w') : wpList Try.prog ops Q (o :: rest) a W := by
  refine wpList_plain hgd fun K hK => ?_
  unfold Oper.wp
  simp [execOp, ho, resolve, invoke, builtin, hs, hx, hrun, Result.andThen]
  exact hK _ _ h
def RbR (l : List Rw) (k : List UInt8) (w : World) (n : Nat) (gk : Nat) (s5 s10 : Value) (wr : World) : Prop :=
  ∃ j : Nat, s10 = .int .i64 (j : Int) ∧ j ≤ n ∧ gk = n - j ∧
    wr.ownsRow w.heap.size 51 2 s5 ((l.take j).filter (fun r => k.isPrefixOf r.key)).length (pcR ((l.take j).filter (fun r => k.isPrefixOf r.key))) ∧ Below w.heap.size w wr
theorem filter_yes {p : Rw → Bool} {l : List Rw} {j : Nat} (hj : j < l.length) (h : p l[j] = true) : (l.take (j + 1)).filter p = (l.take j).filter p ++ [l[j]] := by
  rw [List.take_succ_eq_append_getElem hj, List.filter_append, List.filter_cons_of_pos h]; rfl
theorem filter_no {p : Rw → Bool} {l : List Rw} {j : Nat} (hj : j < l.length) (h : p l[j] = false) : (l.take (j + 1)).filter p = (l.take j).filter p := by
  rw [List.take_succ_eq_append_getElem hj, List.filter_append, List.filter_cons_of_neg (by simp [h])]; simp
end Go.Proofs.Ytmlgaedhfannmaa
