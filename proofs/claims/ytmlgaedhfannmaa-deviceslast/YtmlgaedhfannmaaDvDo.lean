/- Device lists: apply. -/
import Derived.Test.YtmlgaedhfannmaaDvApp
import Derived.Test.YtmlgaedhfannmaaDvRf
import Derived.Laws.StructEq
namespace Go.Proofs.Ytmlgaedhfannmaa
set_option linter.unusedVariables false
set_option linter.unusedSimpArgs false
open Go.RowKit
theorem eq_strD (a b : List UInt8) (d : Nat) (w : World) : (Op.equalIn (d + 1) 9 (str a) (str b)).run Try.prog w = .ok (a == b) w := by
  unfold str; rw [run_equalIn_string w d 9 _ _ Try.underlying9]
  simp [ByteArray.toList_eq]
theorem eq_dev (a b c d : List UInt8) (w : World) : (Op.equalIn 10000 42 (.agg #[str a, str b]) (.agg #[str c, str d])).run Try.prog w = .ok (a == c && b == d) w := by
  have e9 := fun (x y : List UInt8) (d : Nat) => eq_strD x y d w
  rw [show (10000 : Nat) = 9999 + 1 from rfl, run_equalIn_agg w 9999 42 _ _ (by kernel_rfl) (by kernel_rfl)]
  cases hab : (a == c)
  · go_simp
  · cases hcd : (b == d)
    · go_simp
    · go_simp
theorem gd_dev (op : BinOp) (x y : Operand) (a b c d : List UInt8) (w : World) : (eqGuard op 42 x y (.agg #[str a, str b]) (.agg #[str c, str d])).run Try.prog w = .ok () w := run_eqGuard_agg w op 42 x y _ _ (by kernel_rfl)
/-- What a change of a list comes to. -/
def applyR (us : List Uc) (ds : List Rw) (c : Uc) : Int × List Uc × List Rw :=
  if eff ds c = false then (0, us, ds) else if 6 < (setR (rwU c) ds).length then (10, us, ds) else (0, us ++ [upd us.length c], setR (rwU c) ds)
theorem lookD_hit {k : List UInt8} : ∀ {l : List Rw} (h : plc k l < l.length), srt l → l[plc k l].key = k → look l k = l[plc k l].val
  | [], h, _, _ => by simp at h
  | q :: l, h, hs, hk => look_has hs (List.getElem_mem h) hk
theorem lookD_miss {k : List UInt8} : ∀ {l : List Rw}, srt l → thD k l = false → look l k = []
  | [], _, _ => rfl
  | q :: l, hs, h => by
    cases hq : Op.bytesLess q.key k with
    | true =>
      have e : plc k (q :: l) = plc k l + 1 := by rw [plc, if_pos hq]
      rw [look, if_neg (bl_ne hq)]
      refine lookD_miss hs.2 ?_
      unfold thD at h ⊢
      rw [e, List.getElem?_cons_succ] at h
      exact h
    | false =>
      have e : plc k (q :: l) = 0 := by rw [plc, if_neg (by simp [hq])]
      have hne : ¬ q.key = k := by
        unfold thD at h
        rw [e, List.getElem?_cons_zero] at h
        simpa using h
      apply look_above hs
      cases hk : Op.bytesLess k q.key with
      | true => rfl
      | false => exact absurd (bl_total _ _ hq hk) hne
theorem hit_th (k : List UInt8) (l : List Rw) : hit k l = if thD k l = true then 1 else 0 := by
  unfold hit thD
  cases h : l[plc k l]? with
  | none => simp
  | some r => by_cases e : r.key = k <;> simp [e]
/-- The ways of apply. -/
theorem ap_cases {us : List Uc} {ds : List Rw} {c : Uc} (hd : DsOk ds) (hc : okU c = true) :
    (thD c.key ds = false ∧ c.gone = true ∧ applyR us ds c = (0, us, ds)) ∨
    (∃ r, ds[plc c.key ds]? = some r ∧ plc c.key ds < ds.length ∧ thD c.key ds = true ∧ c.gone = false ∧ r.key = c.key ∧ r.val = vl c ∧ applyR us ds c = (0, us, ds)) ∨
    (∃ r, ds[plc c.key ds]? = some r ∧ plc c.key ds < ds.length ∧ thD c.key ds = true ∧ c.gone = true ∧ r.key = c.key ∧ r.val ≠ vl c ∧ applyR us ds c = (0, us ++ [upd us.length c], ds.take (plc c.key ds) ++ ds.drop (plc c.key ds + 1))) ∨
    (∃ r, ds[plc c.key ds]? = some r ∧ plc c.key ds < ds.length ∧ thD c.key ds = true ∧ c.gone = false ∧ r.key = c.key ∧ r.val ≠ vl c ∧ applyR us ds c = (0, us ++ [upd us.length c], ds.set (plc c.key ds) (rwU c))) ∨
    (thD c.key ds = false ∧ c.gone = false ∧ 6 ≤ ds.length ∧ applyR us ds c = (10, us, ds)) ∨
    (thD c.key ds = false ∧ c.gone = false ∧ ds.length < 6 ∧ applyR us ds c = (0, us ++ [upd us.length c], ds.take (plc c.key ds) ++ [rwU c] ++ ds.drop (plc c.key ds))) := by
  have hgv := vl_nil hc
  have hse := setR_eq (rwU c) ds
  have hh := hit_th c.key ds
  have h6 := hd.few
  have hpl := plc_le c.key ds
  have hlen : (setR (rwU c) ds).length = _ := congrArg List.length hse
  rw [List.length_append, List.length_append, List.length_take, List.length_drop] at hlen
  have hk : (rwU c).key = c.key := rfl
  have hv : (rwU c).val = vl c := rfl
  rw [hk, hv] at hse hlen
  cases ht : thD c.key ds with
  | false =>
    rw [ht] at hh
    simp only [Bool.false_eq_true, if_false] at hh
    have hlk := lookD_miss hd.srt ht
    cases hg : c.gone with
    | true =>
      refine .inl ⟨rfl, rfl, ?_⟩
      unfold applyR eff
      rw [hlk, hgv.2 hg]; rfl
    | false =>
      have hn : vl c ≠ [] := fun e => by rw [hgv.1 e] at hg; cases hg
      have he : eff ds c = true := by unfold eff; rw [hlk]; simpa using hn
      rw [if_neg hn] at hse hlen
      rw [hh, Nat.add_zero] at hse hlen
      rw [List.length_singleton] at hlen
      right; right; right; right
      by_cases h : 6 ≤ ds.length
      · refine .inl ⟨rfl, rfl, h, ?_⟩
        unfold applyR
        rw [he, if_neg (by simp), if_pos (by omega)]
      · refine .inr ⟨rfl, rfl, by omega, ?_⟩
        unfold applyR
        rw [he, if_neg (by simp), if_neg (by omega), hse]
  | true =>
    rw [ht] at hh
    simp only [if_true] at hh
    have hp : plc c.key ds < ds.length := by
      rcases Nat.lt_or_ge (plc c.key ds) ds.length with h | h
      · exact h
      · rw [thD_no (by omega)] at ht; cases ht
    have hkey : ds[plc c.key ds].key = c.key := by rw [thD_at hp] at ht; simpa using ht
    have hlk := lookD_hit hp hd.srt hkey
    have hgood := (hd.good _ (List.getElem_mem hp)).1
    by_cases he : ds[plc c.key ds].val = vl c
    · have hg : c.gone = false := by
        cases hg : c.gone with
        | false => rfl
        | true => rw [he, hgv.2 hg] at hgood; exact absurd rfl hgood
      refine .inr (.inl ⟨_, List.getElem?_eq_getElem hp, hp, rfl, hg, hkey, he, ?_⟩)
      unfold applyR eff
      rw [hlk, he]; simp
    · have hef : eff ds c = true := by unfold eff; rw [hlk]; simpa using he
      cases hg : c.gone with
      | true =>
        refine .inr (.inr (.inl ⟨_, List.getElem?_eq_getElem hp, hp, rfl, rfl, hkey, he, ?_⟩))
        rw [if_pos (hgv.2 hg), hh] at hse hlen
        unfold applyR
        rw [hef, if_neg (by simp), if_neg (by simp at hlen; omega), hse]
        simp
      | false =>
        have hn : vl c ≠ [] := fun e => by rw [hgv.1 e] at hg; cases hg
        refine .inr (.inr (.inr (.inl ⟨_, List.getElem?_eq_getElem hp, hp, rfl, rfl, hkey, he, ?_⟩)))
        rw [if_neg hn, hh] at hse hlen
        rw [List.length_singleton] at hlen
        unfold applyR
        rw [hef, if_neg (by simp), if_neg (by omega), hse, List.set_eq_take_append_cons_drop, if_pos hp]
        simp
theorem own_lin {α : Type} {enc : α → List Value} {k : Nat} (hk : ∀ x, (enc x).length = k) {w : World} {base e n c : Nat} {A : Option Addr} {l : List α} (h : w.ownsRow base e k (.slice A n c) n (pcK enc l)) (hl : l.length = n) : LIn enc k w w.heap.size A n c l := by
  subst hl
  obtain ⟨A', c', hv, hA⟩ := LIn.own hk h
  injection hv with h1 _ h3
  subst h1 h3
  exact hA
theorem own_room {w : World} {base e k n c : Nat} {A : Option Addr} {xs : List Value} (h : w.ownsRow base e k (.slice A n c) n xs) : n ≤ c := by
  rcases h.2 with ⟨hv, h0⟩ | ⟨g, c', cur, hv, hb, hg, hnc, hrest⟩
  · omega
  · injection hv; omega
theorem own_off {w : World} {base e k n c b off m : Nat} {xs : List Value} (h : w.ownsRow base e k (.slice (some ⟨b, off, none⟩) m c) n xs) : off = 0 := by
  rcases h.2 with ⟨hv, h0⟩ | ⟨g, c', cur, hv, hb, hg, hnc, hrest⟩
  · injection hv with h1; cases h1
  · injection hv with h1; injection h1 with h1; injection h1 with h1 h2
theorem own_frozen {w : World} {base e k n c b m : Nat} {xs : List Value} (h : w.ownsRow base e k (.slice (some ⟨b, 0, none⟩) m c) n xs) (i : Nat) : w.frozen? ⟨b, i, none⟩ = false := by
  rcases h.2 with ⟨hv, h0⟩ | ⟨g, c', cur, hv, hb, hg, hnc, hrest⟩
  · injection hv with h1; cases h1
  · injection hv with h1; injection h1 with h1; injection h1 with h1 h2
    subst h1
    exact (show Blk w b e cur from hg).frozen i
def ApPost (B : Nat) (vu vd : Value) (X : Int × List Uc × List Rw) (w : World) (e : Ending) (w' : World) : Prop :=
  ∃ vu' vd', e = .returned (.int .i64 X.1) ∧ DvS B w' X.2.1 X.2.2 vu' vd' ∧ Beside (DvN B vu vd) w w'
set_option maxHeartbeats 8000000 in
set_option maxRecDepth 100000 in
theorem apply_any (B : Nat) (us : List Uc) (ds : List Rw) (vu vd : Value) (c : Uc) (w : World) (h : DvS B w us ds vu vd) (hd : DsOk ds) (hc : okU c = true) (hn : us.length + 1 ≤ 1000) :
    Calls Try.prog 50 #[.pointer (some ⟨B, 0, none⟩), .bool c.gone, .agg #[str c.key, str (vl c)]] w (ApPost B vu vd (applyR us ds c) w) := by
  have hcs := ap_cases (us := us) hd hc
  have h6 := hd.few
  obtain ⟨A, cc, rfl, hA⟩ := LIn.own rc_len (show w.ownsRow (B + 1) 42 2 vd ds.length (pcK rc ds) from h.rd)
  obtain ⟨W, hW⟩ : ∃ W, w.alloc (.cells #[str c.key, str (vl c)] 42) = W := ⟨_, rfl⟩
  have hWB := Blk.new w 42 #[str c.key, str (vl c)]
  have hWb : Below w.heap.size w W := by rw [← hW]; exact (Below.refl _ _).alloc (Nat.le_refl _) _
  rw [hW] at hWB
  have x0 : W.cell? ⟨w.heap.size, 0, none⟩ = some (str c.key) := hWB.cell 0
  have HF := Lib.hid (findD_any B us ds vu (.slice A ds.length cc) c.key W (h.below hWb) (by omega))
  have HX := Lib.hid (show ∀ w1, Below W.heap.size W w1 → DvS B w1 us ds vu (.slice A ds.length cc) ∧ Blk w1 w.heap.size 42 #[str c.key, str (vl c)] ∧ Below w.heap.size w w1 from
    fun w1 hb => ⟨(h.below hWb).below hb, hWB.below hb hWB.lt, hWb.trans (hb.mono hWb.size)⟩)
  have hBw : B < w.heap.size := h.box.lt
  have hup : upd us.length c = ⟨(us.length : Int) + 1, us.length, c.key, vl c, c.gone⟩ := rfl
  have hds : ∀ g, (Value.slice A ds.length cc).ownBlock = some g → g < w.heap.size := fun g hg => (World.ownsRow.lt h.rd g hg).2
  have hrw : rwU c = ⟨c.key, vl c⟩ := rfl
  rw [hup, hrw] at hcs
  clear h hA hd hc hWB hWb hup hrw
  generalize applyR us ds c = X at *
  generalize vl c = v at *
  generalize c.key = k at *
  generalize c.gone = g at *
  generalize hP : plc k ds = P at *
  generalize thD k ds = th at *
  generalize hdn : ds.length = n at *
  have Hdn := Lib.hid hdn
  rcases hcs with ⟨rfl, rfl, hX⟩ | ⟨r, hr, hp, rfl, rfl, hk, hv, hX⟩ | ⟨r, hr, hp, rfl, rfl, hk, hv, hX⟩ | ⟨r, hr, hp, rfl, rfl, hk, hv, hX⟩ | ⟨rfl, rfl, h6', hX⟩ | ⟨rfl, rfl, h6', hX⟩
  · have HX9 := Lib.hid hX
    clear hX hdn hP
    go_enter Try.func50, Try.ntmps50
    go_wp2_with fail
    try rw [hW]
    refine HF.out.mono ?_
    rintro e w1 ⟨rfl, hb⟩
    obtain ⟨h1, hb1, hbe⟩ := HX.out w1 hb
    have Hx1 := Lib.hid h1
    have Hbe := Lib.hid hbe
    clear hb h1 hb1 hbe
    go_wp2_with fail
    go_ret
    rw [HX9.out]
    exact ⟨_, _, rfl, Hx1.out, Beside.of_below Hbe.out⟩
  · have HX9 := Lib.hid hX
    obtain ⟨rk, rv⟩ := r
    simp only at hk hv
    replace hk := hk.symm
    subst hk
    replace hv := hv.symm
    subst hv
    have Hr := Lib.hid hr
    have hpi : (P : Int) < (n : Int) := by omega
    have heq := fun W => eq_dev k v k v W
    have hgd := fun op x y W => gd_dev op x y k v k v W
    have hbb : (k == k && v == v) = true := by simp
    rw [hbb] at heq
    clear hX hdn hP hr hbb
    go_enter Try.func50, Try.ntmps50
    go_wp2_with fail
    try rw [hW]
    refine HF.out.mono ?_
    rintro e w1 ⟨rfl, hb⟩
    obtain ⟨h1, hb1, hbe⟩ := HX.out w1 hb
    obtain ⟨b, off, hAd, hbB, e0, e1⟩ := dv_at (own_lin rc_len (show w1.ownsRow (B + 1) 42 2 _ n (pcK rc ds) from by have := h1.rd; rwa [Hdn.out] at this) Hdn.out) (show P < ds.length by have := Hdn.out; omega)
    subst hAd
    rw [(List.getElem?_eq_some_iff.1 Hr.out).2] at e0 e1
    simp only at e0 e1
    have z1 : w1.cell? ⟨B, 1, none⟩ = some (.slice (some ⟨b, off, none⟩) n cc) := h1.box.cell 1
    have q0 : w1.cell? ⟨w.heap.size, 0, none⟩ = some (str k) := hb1.cell 0
    have q1 : w1.cell? ⟨w.heap.size, 1, none⟩ = some (str v) := hb1.cell 1
    have Hx1 := Lib.hid h1
    have Hbe := Lib.hid hbe
    clear hb h1 hb1 hbe
    go_wp2_with fail
    go_quiet (fail)
    go_wp2_with fail
    go_ret
    rw [HX9.out]
    exact ⟨_, _, rfl, Hx1.out.below (below_drewN (Below.refl _ _) _), Beside.of_below (below_drewN Hbe.out _)⟩
  · have HX9 := Lib.hid hX
    obtain ⟨rk, rv⟩ := r
    simp only at hk hv
    replace hk := hk.symm
    subst hk
    have Hv := Lib.hid hv
    have Hr := Lib.hid hr
    have hpi : (P : Int) < (n : Int) := by omega
    clear hX hdn hP hv hr
    go_enter Try.func50, Try.ntmps50
    go_wp2_with fail
    try rw [hW]
    refine HF.out.mono ?_
    rintro e w1 ⟨rfl, hb⟩
    obtain ⟨h1, hb1, hbe⟩ := HX.out w1 hb
    obtain ⟨b, off, hAd, hbB, e0, e1⟩ := dv_at (own_lin rc_len (show w1.ownsRow (B + 1) 42 2 _ n (pcK rc ds) from by have := h1.rd; rwa [Hdn.out] at this) Hdn.out) (show P < ds.length by have := Hdn.out; omega)
    subst hAd
    rw [(List.getElem?_eq_some_iff.1 Hr.out).2] at e0 e1
    simp only at e0 e1
    have hgB : b < w1.heap.size := hbB
    have z1 : w1.cell? ⟨B, 1, none⟩ = some (.slice (some ⟨b, off, none⟩) n cc) := h1.box.cell 1
    have q0 : w1.cell? ⟨w.heap.size, 0, none⟩ = some (str k) := hb1.cell 0
    have q1 : w1.cell? ⟨w.heap.size, 1, none⟩ = some (str v) := hb1.cell 1
    have Hx1 := Lib.hid h1
    have HB1 := Lib.hid hb1
    have Hbe := Lib.hid hbe
    have hle : w.heap.size ≤ w1.heap.size := hbe.size
    have heq := fun W => eq_dev k rv k v W
    have hgd := fun op x y W => gd_dev op x y k rv k v W
    have hbb : (k == k && rv == v) = false := by simpa using Hv.out
    rw [hbb] at heq
    clear hb h1 hb1 hbe hbb
    go_wp2_with fail
    go_quiet (fail)
    obtain ⟨Wq, hq⟩ : ∃ Wq, w1.drewN nq = Wq := ⟨_, rfl⟩
    have hqb : Below w1.heap.size w1 Wq := by rw [← hq]; exact below_drewN (Below.refl _ _) _
    have hxq := Hx1.out.below hqb
    have hBq := HB1.out.below hqb HB1.out.lt
    have zq : Wq.cell? ⟨B, 1, none⟩ = some (.slice (some ⟨b, off, none⟩) n cc) := hxq.box.cell 1
    have hbeq : Below w.heap.size w Wq := Hbe.out.trans (hqb.mono (by omega))
    have hlq : w.heap.size ≤ Wq.heap.size := Nat.le_trans hle hqb.size
    rw [hq]
    clear z1 q0 q1 e0 e1 hqb hq
    have hnc : n ≤ cc := own_room (show Wq.ownsRow (B + 1) 42 2 (.slice (some ⟨b, off, none⟩) n cc) n (pcR ds) by have := hxq.rd; rwa [Hdn.out] at this)
    have HD := delD_any (B + 1) n cc P (P + 1) (some ⟨b, off, none⟩) ds Wq (show Wq.ownsRow (B + 1) 42 2 _ n (pcR ds) by have := hxq.rd; rwa [Hdn.out] at this) (.inr rfl) hp (by omega) hnc
    rw [show ((P + 1 : Nat) : Int) = (P : Int) + 1 by omega, show n - (P + 1 - P) = n - 1 by omega] at HD
    have HD := Lib.hid HD
    have Hxq := Lib.hid hxq
    have HBq := Lib.hid hBq
    have Hbeq := Lib.hid hbeq
    clear hxq hBq hbeq
    go_wp2_with fail
    refine HD.out.mono ?_
    rintro e w2 ⟨rfl, ho2, hg2⟩
    have hln : (ds.take P ++ ds.drop (P + 1)).length = n - 1 := by have := Hdn.out; rw [List.length_append, List.length_take, List.length_drop]; omega
    obtain ⟨y2, yf2, hx3, hbs3⟩ := Hxq.out.dev (v' := .slice (some ⟨b, off, none⟩) (n - 1) cc) (ds' := ds.take P ++ ds.drop (P + 1)) hg2 (by rw [hln]; exact ho2) (fun g hg => .inl hg)
    have hB2 := HBq.out.grown hg2 (fun e => by have := hds _ e.symm; omega)
    obtain ⟨W3, hW3⟩ : ∃ W3, w2.setCell ⟨B, 1, none⟩ (.slice (some ⟨b, off, none⟩) (n - 1) cc) = W3 := ⟨_, rfl⟩
    have hB3 : Blk W3 w.heap.size 42 #[str k, str v] := by rw [← hW3]; exact hB2.far (by show w.heap.size ≠ B; omega) _
    have hbe3 : Beside (DvN B vu (.slice (some ⟨b, off, none⟩) n cc)) w W3 := by rw [← hW3]; exact (Beside.of_below Hbeq.out).trans hbs3
    have hN3 : ∀ k, k < w.heap.size → DvN B vu (.slice (some ⟨b, off, none⟩) (n - 1) cc) k → DvN B vu (.slice (some ⟨b, off, none⟩) n cc) k := fun _ _ h => h
    rw [hW3] at hx3
    have s0 : W3.cell? ⟨w.heap.size, 0, none⟩ = some (str k) := hB3.cell 0
    have s1 : W3.cell? ⟨w.heap.size, 1, none⟩ = some (str v) := hB3.cell 1
    clear ho2 hg2 hbs3 hB2 HD
    have s0 : W3.cell? ⟨w.heap.size, 0, none⟩ = some (str k) := hB3.cell 0
    have s1 : W3.cell? ⟨w.heap.size, 1, none⟩ = some (str v) := hB3.cell 1
    have HN := Lib.hid hN3
    have HU := Lib.hid (addUpdate_any B us (ds.take P ++ ds.drop (P + 1)) vu _ k v true W3 hx3 hn)
    have Hbe3 := Lib.hid hbe3
    clear hx3 hB3 hbe3 hN3
    go_wp2_with fail
    refine HU.out.mono ?_
    rintro e w4 ⟨vu', rfl, hx4, hb4⟩
    have Hx4 := Lib.hid hx4
    have Hb4 := Lib.hid (Hbe3.out.next hb4 HN.out)
    clear hx4 hb4 HU
    go_wp2_with fail
    go_ret
    rw [HX9.out]
    exact ⟨_, _, rfl, Hx4.out, Hb4.out⟩
  · have HX9 := Lib.hid hX
    obtain ⟨rk, rv⟩ := r
    simp only at hk hv
    replace hk := hk.symm
    subst hk
    have Hv := Lib.hid hv
    have Hr := Lib.hid hr
    have hpi : (P : Int) < (n : Int) := by omega
    clear hX hdn hP hv hr
    go_enter Try.func50, Try.ntmps50
    go_wp2_with fail
    try rw [hW]
    refine HF.out.mono ?_
    rintro e w1 ⟨rfl, hb⟩
    obtain ⟨h1, hb1, hbe⟩ := HX.out w1 hb
    obtain ⟨b, off, hAd, hbB, e0, e1⟩ := dv_at (own_lin rc_len (show w1.ownsRow (B + 1) 42 2 _ n (pcK rc ds) from by have := h1.rd; rwa [Hdn.out] at this) Hdn.out) (show P < ds.length by have := Hdn.out; omega)
    subst hAd
    rw [(List.getElem?_eq_some_iff.1 Hr.out).2] at e0 e1
    simp only at e0 e1
    have hgB : b < w1.heap.size := hbB
    have z1 : w1.cell? ⟨B, 1, none⟩ = some (.slice (some ⟨b, off, none⟩) n cc) := h1.box.cell 1
    have q0 : w1.cell? ⟨w.heap.size, 0, none⟩ = some (str k) := hb1.cell 0
    have q1 : w1.cell? ⟨w.heap.size, 1, none⟩ = some (str v) := hb1.cell 1
    have Hx1 := Lib.hid h1
    have HB1 := Lib.hid hb1
    have Hbe := Lib.hid hbe
    have hle : w.heap.size ≤ w1.heap.size := hbe.size
    have heq := fun W => eq_dev k rv k v W
    have hgd := fun op x y W => gd_dev op x y k rv k v W
    have hbb : (k == k && rv == v) = false := by simpa using Hv.out
    rw [hbb] at heq
    clear hb h1 hb1 hbe hbb
    go_wp2_with fail
    go_quiet (fail)
    obtain ⟨Wq, hq⟩ : ∃ Wq, w1.drewN nq = Wq := ⟨_, rfl⟩
    have hqb : Below w1.heap.size w1 Wq := by rw [← hq]; exact below_drewN (Below.refl _ _) _
    have hxq := Hx1.out.below hqb
    have hBq := HB1.out.below hqb HB1.out.lt
    have zq : Wq.cell? ⟨B, 1, none⟩ = some (.slice (some ⟨b, off, none⟩) n cc) := hxq.box.cell 1
    have hbeq : Below w.heap.size w Wq := Hbe.out.trans (hqb.mono (by omega))
    have hlq : w.heap.size ≤ Wq.heap.size := Nat.le_trans hle hqb.size
    rw [hq]
    clear z1 q0 q1 e0 e1 hqb hq
    obtain ⟨Wd, hWd⟩ : ∃ Wd, Wq.drew = Wd := ⟨_, rfl⟩
    have hbd : Below Wq.heap.size Wq Wd := by rw [← hWd]; exact below_drewN (Below.refl _ _) 1
    have hxd := hxq.below hbd
    have hBd := hBq.below hbd hBq.lt
    have hoff := own_off hxd.rd
    subst hoff
    obtain ⟨b', off', hAd', hbB', e0, e1⟩ := dv_at (own_lin rc_len (show Wd.ownsRow (B + 1) 42 2 _ n (pcK rc ds) from by have := hxd.rd; rwa [Hdn.out] at this) Hdn.out) (show P < ds.length by have := Hdn.out; omega)
    have hbb' : b = b' ∧ 0 = off' := by injection hAd' with h; injection h with h1 h2; exact ⟨h1, h2⟩
    obtain ⟨rfl, rfl⟩ := hbb'
    have fr := fun i => own_frozen hxd.rd i
    have fr0 := fr (0 + P * 2)
    have fr1 := fr (0 + P * 2 + 1)
    have how := dv_own_set (x := ⟨k, v⟩) (show Wd.ownsRow (B + 1) 42 2 (.slice (some ⟨b, 0, none⟩) n cc) n (pcR ds) by have := hxd.rd; rwa [Hdn.out] at this) (show P < ds.length by have := Hdn.out; omega)
    have hgr : Wd.grownBy ((Wd.setCell ⟨b, P * 2, none⟩ (str k)).setCell ⟨b, P * 2 + 1, none⟩ (str v)) (Value.slice (some ⟨b, 0, none⟩) n cc).ownBlock :=
      only_setCell (g := b) (p := ⟨b, P * 2 + 1, none⟩) (only_setCell (g := b) (p := ⟨b, P * 2, none⟩) (World.grownBy.refl _ _) (.inl rfl) _) (.inl rfl) _
    obtain ⟨W3, hW3⟩ : ∃ W3, (Wd.setCell ⟨b, P * 2, none⟩ (str k)).setCell ⟨b, P * 2 + 1, none⟩ (str v) = W3 := ⟨_, rfl⟩
    rw [hW3] at hgr how
    have hx3 : DvS B W3 us (ds.set P ⟨k, v⟩) vu (.slice (some ⟨b, 0, none⟩) n cc) := (hxd.turn (ds' := ds.set P ⟨k, v⟩) hgr (by rw [List.length_set, Hdn.out]; exact how)).1
    have hbs3 := (hxd.turn (ds' := ds.set P ⟨k, v⟩) hgr (by rw [List.length_set, Hdn.out]; exact how)).2
    have hB3 := hBd.grown hgr (fun e => by have := hds _ e.symm; omega)
    have hbe3 : Beside (DvN B vu (.slice (some ⟨b, 0, none⟩) n cc)) w W3 := (Beside.of_below (hbeq.trans (hbd.mono hlq))).trans hbs3
    have hN3 : ∀ k, k < w.heap.size → DvN B vu (.slice (some ⟨b, 0, none⟩) n cc) k → DvN B vu (.slice (some ⟨b, 0, none⟩) n cc) k := fun _ _ h => h
    have hS0 : Wd.cell? ⟨B, 1, none⟩ = some (.slice (some ⟨b, 0, none⟩) n cc) ∧ Wd.cell? ⟨w.heap.size, 0, none⟩ = some (str k) ∧ Wd.cell? ⟨w.heap.size, 1, none⟩ = some (str v) := ⟨hxd.box.cell 1, hBd.cell 0, hBd.cell 1⟩
    clear hxd hBd hbd hxq hBq hbeq hAd' hbs3 hgr how fr hbB'
    go_wp2_with fail
    refine region_S (fun w' => w'.cell? ⟨B, 1, none⟩ = some (.slice (some ⟨b, 0, none⟩) n cc) ∧ w'.cell? ⟨w.heap.size, 0, none⟩ = some (str k) ∧ w'.cell? ⟨w.heap.size, 1, none⟩ = some (str v)) [7] (by kernel_rfl) ?_
    rw [hWd]
    refine anyS_take 0 (v := .pointer (some ⟨B, 0, none⟩)) rfl (by kernel_rfl) (by kernel_rfl) (by kernel_rfl) (by kernel_rfl) (fun _ _ _ h => h) (.inl ⟨by kernel_rfl, fun w' hS' => by kernel_rfl⟩) hS0 ?_
    refine anyS_take 1 (v := .pointer (some ⟨B, 0, none⟩)) rfl (by kernel_rfl) (by kernel_rfl) (by kernel_rfl) (by kernel_rfl) (fun _ _ _ h => h) (.inl ⟨by kernel_rfl, fun w' hS' => by go_simp⟩) hS0 ?_
    refine anyS_take 2 (v := .pointer (some ⟨B, 1, none⟩)) rfl (by kernel_rfl) (by kernel_rfl) (by kernel_rfl) (by kernel_rfl) (fun _ _ _ h => h) (.inl ⟨by kernel_rfl, fun w' hS' => by go_simp⟩) hS0 ?_
    refine anyS_take 3 (v := .slice (some ⟨b, 0, none⟩) n cc) rfl (by kernel_rfl) (by kernel_rfl) (by kernel_rfl) (by kernel_rfl) (fun _ _ _ h => h) (.inl ⟨by kernel_rfl, fun w' hS' => by obtain ⟨s0, s1, s2⟩ := hS'; go_simp⟩) hS0 ?_
    refine anyS_take 4 (v := .int .i64 (P : Int)) rfl (by kernel_rfl) (by kernel_rfl) (by kernel_rfl) (by kernel_rfl) (fun _ _ _ h => h) (.inl ⟨by kernel_rfl, fun w' hS' => by kernel_rfl⟩) hS0 ?_
    refine anyS_take 5 (v := .agg #[str k, str v]) rfl (by kernel_rfl) (by kernel_rfl) (by kernel_rfl) (by kernel_rfl) (fun _ _ _ h => h) (.inl ⟨by kernel_rfl, fun w' hS' => by obtain ⟨s0, s1, s2⟩ := hS'; go_simp⟩) hS0 ?_
    refine anyS_take 6 (v := .pointer (some ⟨b, 0 + P * 2, none⟩)) rfl (by kernel_rfl) (by kernel_rfl) (by kernel_rfl) (by kernel_rfl) (fun _ _ _ h => h) (.inl ⟨by kernel_rfl, fun w' hS' => by go_simp⟩) hS0 ?_
    refine anyS_one 7 rfl (by kernel_rfl) rfl ?_
    intro K7 hK7
    simp only [Nat.zero_add] at e0 e1 fr0 fr1
    go_simp
    try rw [hW3]
    refine hK7 _ _ ⟨fun h => absurd (List.mem_singleton.2 rfl) h, ?_⟩
    refine anyS_done (by kernel_rfl) ?_
    clear hK7 hS0 e0 e1 fr0 fr1
    have s0 : W3.cell? ⟨w.heap.size, 0, none⟩ = some (str k) := hB3.cell 0
    have s1 : W3.cell? ⟨w.heap.size, 1, none⟩ = some (str v) := hB3.cell 1
    have HN := Lib.hid hN3
    have HU := Lib.hid (addUpdate_any B us (ds.set P ⟨k, v⟩) vu _ k v false W3 hx3 hn)
    have Hbe3 := Lib.hid hbe3
    clear hx3 hB3 hbe3 hN3
    go_wp2_with fail
    refine HU.out.mono ?_
    rintro e w4 ⟨vu', rfl, hx4, hb4⟩
    have Hx4 := Lib.hid hx4
    have Hb4 := Lib.hid (Hbe3.out.next hb4 HN.out)
    clear hx4 hb4 HU
    go_wp2_with fail
    go_ret
    rw [HX9.out]
    exact ⟨_, _, rfl, Hx4.out, Hb4.out⟩
  · have HX9 := Lib.hid hX
    have h6i : (6 : Int) ≤ (n : Int) := by omega
    clear hX hdn hP
    go_enter Try.func50, Try.ntmps50
    go_wp2_with fail
    try rw [hW]
    refine HF.out.mono ?_
    rintro e w1 ⟨rfl, hb⟩
    obtain ⟨h1, hb1, hbe⟩ := HX.out w1 hb
    have z1 : w1.cell? ⟨B, 1, none⟩ = some (.slice A n cc) := h1.box.cell 1
    have Hx1 := Lib.hid h1
    have Hbe := Lib.hid hbe
    clear hb h1 hb1 hbe
    go_wp2_with fail
    go_quiet (fail)
    go_wp2_with fail
    go_ret
    rw [HX9.out]
    exact ⟨_, _, rfl, Hx1.out.below (below_drewN (Below.refl _ _) _), Beside.of_below (below_drewN Hbe.out _)⟩
  · have HX9 := Lib.hid hX
    have h6i : ¬ (6 : Int) ≤ (n : Int) := by omega
    have hPn : P ≤ n := by rw [← hP, ← hdn]; exact plc_le k ds
    clear hX hdn hP
    go_enter Try.func50, Try.ntmps50
    go_wp2_with fail
    try rw [hW]
    refine HF.out.mono ?_
    rintro e w1 ⟨rfl, hb⟩
    obtain ⟨h1, hb1, hbe⟩ := HX.out w1 hb
    have z1 : w1.cell? ⟨B, 1, none⟩ = some (.slice A n cc) := h1.box.cell 1
    have Hx1 := Lib.hid h1
    have HB1 := Lib.hid hb1
    have Hbe := Lib.hid hbe
    have hle : w.heap.size ≤ w1.heap.size := hbe.size
    clear hb h1 hb1 hbe
    go_wp2_with fail
    go_quiet (fail)
    obtain ⟨Wq, hq⟩ : ∃ Wq, w1.drewN nq = Wq := ⟨_, rfl⟩
    have hqb : Below w1.heap.size w1 Wq := by rw [← hq]; exact below_drewN (Below.refl _ _) _
    have hxq := Hx1.out.below hqb
    have hBq := HB1.out.below hqb HB1.out.lt
    have zq : Wq.cell? ⟨B, 1, none⟩ = some (.slice A n cc) := hxq.box.cell 1
    have hbeq : Below w.heap.size w Wq := Hbe.out.trans (hqb.mono (by omega))
    have hlq : w.heap.size ≤ Wq.heap.size := Nat.le_trans hle hqb.size
    rw [hq]
    clear z1 hqb hq
    obtain ⟨Wd, hWd⟩ : ∃ Wd, Wq.drew = Wd := ⟨_, rfl⟩
    have hbd : Below Wq.heap.size Wq Wd := by rw [← hWd]; exact below_drewN (Below.refl _ _) 1
    have hxd := hxq.below hbd
    have hBd := hBq.below hbd hBq.lt
    have hld : w.heap.size ≤ Wd.heap.size := Nat.le_trans hlq hbd.size
    have hbed : Below w.heap.size w Wd := hbeq.trans (hbd.mono hlq)
    have hba : Below Wd.heap.size Wd (Wd.alloc (.cells #[str k, str v] 42)) := (Below.refl _ _).alloc (Nat.le_refl _) _
    have hxa := hxd.below hba
    have hBa := hBd.below hba hBd.lt
    have hnew := Blk.new Wd 42 #[str k, str v]
    have hrow : (Wd.alloc (.cells #[str k, str v] 42)).ownsRow (B + 1) 42 2 (.slice A n cc) n (pcR ds) := by have := hxa.rd; rwa [Hdn.out] at this
    have HI := Lib.hid (insD_own (B + 1) n P Wd.heap.size (.slice A n cc) (pcR ds) [str k, str v] (Wd.alloc (.cells #[str k, str v] 42)) hrow hPn (by omega) (by simp; omega) hnew (fun e => by have := hds _ e.symm; omega) rfl (pcR_one ds) (by intro u hu; simp at hu; rcases hu with rfl | rfl <;> rfl))
    have hS0 : Wd.cell? ⟨B, 1, none⟩ = some (.slice A n cc) ∧ Wd.cell? ⟨w.heap.size, 0, none⟩ = some (str k) ∧ Wd.cell? ⟨w.heap.size, 1, none⟩ = some (str v) := ⟨hxd.box.cell 1, hBd.cell 0, hBd.cell 1⟩
    have hS1 : (Wd.alloc (.cells #[str k, str v] 42)).cell? ⟨B, 1, none⟩ = some (.slice A n cc) ∧ (Wd.alloc (.cells #[str k, str v] 42)).cell? ⟨w.heap.size, 0, none⟩ = some (str k) ∧ (Wd.alloc (.cells #[str k, str v] 42)).cell? ⟨w.heap.size, 1, none⟩ = some (str v) := ⟨hxa.box.cell 1, hBa.cell 0, hBa.cell 1⟩
    have Hxa := Lib.hid hxa
    have HBa := Lib.hid hBa
    have Hbea := Lib.hid (hbed.trans (hba.mono hld))
    clear hxd hBd hbd hxq hBq hbeq hxa hBa hnew hrow hbed hba
    go_wp2_with fail
    refine region_S (fun w' => w'.cell? ⟨B, 1, none⟩ = some (.slice A n cc) ∧ w'.cell? ⟨w.heap.size, 0, none⟩ = some (str k) ∧ w'.cell? ⟨w.heap.size, 1, none⟩ = some (str v)) [11] (by kernel_rfl) ?_
    rw [hWd]
    refine anyS_take 0 (v := .pointer (some ⟨B, 0, none⟩)) rfl (by kernel_rfl) (by kernel_rfl) (by kernel_rfl) (by kernel_rfl) (fun _ _ _ h => h) (.inl ⟨by kernel_rfl, fun w' hS' => by kernel_rfl⟩) hS0 ?_
    refine anyS_take 1 (v := .pointer (some ⟨B, 0, none⟩)) rfl (by kernel_rfl) (by kernel_rfl) (by kernel_rfl) (by kernel_rfl) (fun _ _ _ h => h) (.inl ⟨by kernel_rfl, fun w' hS' => by kernel_rfl⟩) hS0 ?_
    refine anyS_take 2 (v := .pointer (some ⟨B, 0, none⟩)) rfl (by kernel_rfl) (by kernel_rfl) (by kernel_rfl) (by kernel_rfl) (fun _ _ _ h => h) (.inl ⟨by kernel_rfl, fun w' hS' => by go_simp⟩) hS0 ?_
    refine anyS_take 3 (v := .pointer (some ⟨B, 1, none⟩)) rfl (by kernel_rfl) (by kernel_rfl) (by kernel_rfl) (by kernel_rfl) (fun _ _ _ h => h) (.inl ⟨by kernel_rfl, fun w' hS' => by go_simp⟩) hS0 ?_
    refine anyS_take 4 (v := .slice A n cc) rfl (by kernel_rfl) (by kernel_rfl) (by kernel_rfl) (by kernel_rfl) (fun _ _ _ h => h) (.inl ⟨by kernel_rfl, fun w' hS' => by obtain ⟨s0, s1, s2⟩ := hS'; go_simp⟩) hS0 ?_
    refine anyS_take 5 (v := .int .i64 (P : Int)) rfl (by kernel_rfl) (by kernel_rfl) (by kernel_rfl) (by kernel_rfl) (fun _ _ _ h => h) (.inl ⟨by kernel_rfl, fun w' hS' => by kernel_rfl⟩) hS0 ?_
    refine anyS_take 6 (v := .agg #[str k, str v]) rfl (by kernel_rfl) (by kernel_rfl) (by kernel_rfl) (by kernel_rfl) (fun _ _ _ h => h) (.inl ⟨by kernel_rfl, fun w' hS' => by obtain ⟨s0, s1, s2⟩ := hS'; go_simp⟩) hS0 ?_
    refine anyS_one 7 rfl (by kernel_rfl) rfl ?_
    intro K7 hK7
    go_simp
    refine hK7 _ _ ⟨fun _ => hS1, ?_⟩
    refine anyS_one 8 rfl (by kernel_rfl) rfl ?_
    intro K8 hK8
    go_simp
    refine HI.out.mono ?_
    rintro e w2 ⟨v', rfl, ho2, hg2, hor2⟩
    have hpc : (pcR ds).take (P * 2) ++ [str k, str v] ++ (pcR ds).drop (P * 2) = pcR (ds.take P ++ [(⟨k, v⟩ : Rw)] ++ ds.drop P) := by rw [pcR_app, pcR_app, ← pcR_take, ← pcR_drop]; rfl
    have hln : (ds.take P ++ [(⟨k, v⟩ : Rw)] ++ ds.drop P).length = n + 1 := by have := Hdn.out; rw [List.length_append, List.length_append, List.length_take, List.length_drop, List.length_singleton]; omega
    rw [hpc] at ho2
    obtain ⟨y2, yf2, hx3, hbs3⟩ := Hxa.out.dev (ds' := ds.take P ++ [(⟨k, v⟩ : Rw)] ++ ds.drop P) hg2 (by rw [hln]; exact ho2) (fun g hg => by
      rcases hor2 with e | e
      · exact .inl (by rw [← e]; exact hg)
      · rw [hg] at e; injection e with e; exact .inr (by omega))
    have hB2 := HBa.out.grown hg2 (fun e => by have := hds _ e.symm; omega)
    have hS2 : w2.cell? ⟨B, 1, none⟩ = some (.slice A n cc) ∧ w2.cell? ⟨w.heap.size, 0, none⟩ = some (str k) ∧ w2.cell? ⟨w.heap.size, 1, none⟩ = some (str v) := ⟨y2, hB2.cell 0, hB2.cell 1⟩
    obtain ⟨A', c', rfl, -⟩ := own_form ho2
    obtain ⟨W3, hW3⟩ : ∃ W3, w2.setCell ⟨B, 1, none⟩ (.slice A' (n + 1) c') = W3 := ⟨_, rfl⟩
    have hB3 : Blk W3 w.heap.size 42 #[str k, str v] := by rw [← hW3]; exact hB2.far (by show w.heap.size ≠ B; omega) _
    have hbe3 : Beside (DvN B vu (.slice A n cc)) w W3 := by rw [← hW3]; exact (Beside.of_below Hbea.out).trans hbs3
    have hN3 : ∀ k, k < w.heap.size → DvN B vu (.slice A' (n + 1) c') k → DvN B vu (.slice A n cc) k := fun k hk hN => by
      rcases hN with e | e | e
      · exact .inl e
      · exact .inr (.inl e)
      · rcases hor2 with e2 | e2
        · exact .inr (.inr (by rw [← e2]; exact e))
        · rw [e] at e2; injection e2 with e2; simp at e2; omega
    rw [hW3] at hx3
    clear ho2 hg2 hor2 hbs3 hB2 HI hpc
    refine hK8 _ _ ⟨fun _ => hS2, ?_⟩
    refine anyS_one 9 rfl (by kernel_rfl) rfl ?_
    intro K9 hK9
    go_simp
    refine hK9 _ _ ⟨fun _ => hS2, ?_⟩
    refine anyS_one 10 rfl (by kernel_rfl) rfl ?_
    intro K10 hK10
    go_simp
    refine hK10 _ _ ⟨fun _ => hS2, ?_⟩
    refine anyS_one 11 rfl (by kernel_rfl) rfl ?_
    intro K11 hK11
    have c0 := hS2.1
    go_simp
    try rw [hW3]
    refine hK11 _ _ ⟨fun h => absurd (List.mem_singleton.2 rfl) h, ?_⟩
    refine anyS_done (by kernel_rfl) ?_
    clear hK7 hK8 hK9 hK10 hK11 hS0 hS1 hS2 c0 y2 yf2
    have s0 : W3.cell? ⟨w.heap.size, 0, none⟩ = some (str k) := hB3.cell 0
    have s1 : W3.cell? ⟨w.heap.size, 1, none⟩ = some (str v) := hB3.cell 1
    have HN := Lib.hid hN3
    have HU := Lib.hid (addUpdate_any B us (ds.take P ++ [(⟨k, v⟩ : Rw)] ++ ds.drop P) vu _ k v false W3 hx3 hn)
    have Hbe3 := Lib.hid hbe3
    clear hx3 hB3 hbe3 hN3
    go_wp2_with fail
    refine HU.out.mono ?_
    rintro e w4 ⟨vu', rfl, hx4, hb4⟩
    have Hx4 := Lib.hid hx4
    have Hb4 := Lib.hid (Hbe3.out.next hb4 HN.out)
    clear hx4 hb4 HU
    go_wp2_with fail
    go_ret
    rw [HX9.out]
    exact ⟨_, _, rfl, Hx4.out, Hb4.out⟩
end Go.Proofs.Ytmlgaedhfannmaa
