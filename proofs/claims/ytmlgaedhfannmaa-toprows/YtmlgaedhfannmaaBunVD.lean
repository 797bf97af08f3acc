/- Joined texts: DvDo, DvPl, DvPy. -/
import Derived.Test.YtmlgaedhfannmaaBunVC
import Derived.Test.YtmlgaedhfannmaaBunVA
import Derived.Laws.StructEq
/- Device lists: apply. -/
namespace Go.Proofs.Ytmlgaedhfannmaa
set_option linter.unusedVariables false
set_option linter.unusedSimpArgs false
open Go.RowKit
theorem eq_strD (a b : List UInt8) (d : Nat) (w : World) : (Op.equalIn (d + 1) 9 (str a) (str b)).run Try.prog w = .ok (a == b) w := by
  unfold str; rw [run_equalIn_string w d 9 _ _ Try.underlying9]
  simp [ByteArray.toList_eq]
theorem eq_dev (a b c d : List UInt8) (w : World) : (Op.equalIn 10000 42 (.agg #[str a, str b]) (.agg #[str c, str d])).run Try.prog w = .ok (a == c && b == d) w := by
  have e9 := fun (x y : List UInt8) (d : Nat) => eq_strD x y d w
  rw [show (10000 : Nat) = 9999 + 1 from rfl, run_equalIn_agg w 9999 42 _ _ (by kernel_rfl) (by kernel_rfl)]
  cases hab : (a == c)
  · go_simp
  · cases hcd : (b == d)
    · go_simp
    · go_simp
theorem gd_dev (op : BinOp) (x y : Operand) (a b c d : List UInt8) (w : World) : (eqGuard op 42 x y (.agg #[str a, str b]) (.agg #[str c, str d])).run Try.prog w = .ok () w := run_eqGuard_agg w op 42 x y _ _ (by kernel_rfl)
/-- What a change of a list comes to. -/
def dapplyR (us : List Uc) (ds : List Rw) (c : Uc) : Int × List Uc × List Rw :=
  if eff ds c = false then (0, us, ds) else if 6 < (setR (rwU c) ds).length then (10, us, ds) else (0, us ++ [upd us.length c], setR (rwU c) ds)
theorem lookD_hit {k : List UInt8} : ∀ {l : List Rw} (h : plc k l < l.length), srt l → l[plc k l].key = k → look l k = l[plc k l].val
  | [], h, _, _ => by simp at h
  | q :: l, h, hs, hk => look_has hs (List.getElem_mem h) hk
theorem lookD_miss {k : List UInt8} : ∀ {l : List Rw}, srt l → thD k l = false → look l k = []
  | [], _, _ => rfl
  | q :: l, hs, h => by
    cases hq : Op.bytesLess q.key k with
    | true =>
      have e : plc k (q :: l) = plc k l + 1 := by rw [plc, if_pos hq]
      rw [look, if_neg (bl_ne hq)]
      refine lookD_miss hs.2 ?_
      unfold thD at h ⊢
      rw [e, List.getElem?_cons_succ] at h
      exact h
    | false =>
      have e : plc k (q :: l) = 0 := by rw [plc, if_neg (by simp [hq])]
      have hne : ¬ q.key = k := by
        unfold thD at h
        rw [e, List.getElem?_cons_zero] at h
        simpa using h
      apply look_above hs
      cases hk : Op.bytesLess k q.key with
      | true => rfl
      | false => exact absurd (bl_total _ _ hq hk) hne
theorem hit_th (k : List UInt8) (l : List Rw) : hit k l = if thD k l = true then 1 else 0 := by
  unfold hit thD
  cases h : l[plc k l]? with
  | none => simp
  | some r => by_cases e : r.key = k <;> simp [e]
/-- The ways of apply. -/
theorem ap_cases {us : List Uc} {ds : List Rw} {c : Uc} (hd : DlOk ds) (hc : okU c = true) :
    (thD c.key ds = false ∧ c.gone = true ∧ dapplyR us ds c = (0, us, ds)) ∨
    (∃ r, ds[plc c.key ds]? = some r ∧ plc c.key ds < ds.length ∧ thD c.key ds = true ∧ c.gone = false ∧ r.key = c.key ∧ r.val = vl c ∧ dapplyR us ds c = (0, us, ds)) ∨
    (∃ r, ds[plc c.key ds]? = some r ∧ plc c.key ds < ds.length ∧ thD c.key ds = true ∧ c.gone = true ∧ r.key = c.key ∧ r.val ≠ vl c ∧ dapplyR us ds c = (0, us ++ [upd us.length c], ds.take (plc c.key ds) ++ ds.drop (plc c.key ds + 1))) ∨
    (∃ r, ds[plc c.key ds]? = some r ∧ plc c.key ds < ds.length ∧ thD c.key ds = true ∧ c.gone = false ∧ r.key = c.key ∧ r.val ≠ vl c ∧ dapplyR us ds c = (0, us ++ [upd us.length c], ds.set (plc c.key ds) (rwU c))) ∨
    (thD c.key ds = false ∧ c.gone = false ∧ 6 ≤ ds.length ∧ dapplyR us ds c = (10, us, ds)) ∨
    (thD c.key ds = false ∧ c.gone = false ∧ ds.length < 6 ∧ dapplyR us ds c = (0, us ++ [upd us.length c], ds.take (plc c.key ds) ++ [rwU c] ++ ds.drop (plc c.key ds))) := by
  have hgv := vl_nil hc
  have hse := setR_eq (rwU c) ds
  have hh := hit_th c.key ds
  have h6 := hd.few
  have hpl := plc_le c.key ds
  have hlen : (setR (rwU c) ds).length = _ := congrArg List.length hse
  rw [List.length_append, List.length_append, List.length_take, List.length_drop] at hlen
  have hk : (rwU c).key = c.key := rfl
  have hv : (rwU c).val = vl c := rfl
  rw [hk, hv] at hse hlen
  cases ht : thD c.key ds with
  | false =>
    rw [ht] at hh
    simp only [Bool.false_eq_true, if_false] at hh
    have hlk := lookD_miss hd.srt ht
    cases hg : c.gone with
    | true =>
      refine .inl ⟨rfl, rfl, ?_⟩
      unfold dapplyR eff
      rw [hlk, hgv.2 hg]; rfl
    | false =>
      have hn : vl c ≠ [] := fun e => by rw [hgv.1 e] at hg; cases hg
      have he : eff ds c = true := by unfold eff; rw [hlk]; simpa using hn
      rw [if_neg hn] at hse hlen
      rw [hh, Nat.add_zero] at hse hlen
      rw [List.length_singleton] at hlen
      right; right; right; right
      by_cases h : 6 ≤ ds.length
      · refine .inl ⟨rfl, rfl, h, ?_⟩
        unfold dapplyR
        rw [he, if_neg (by simp), if_pos (by omega)]
      · refine .inr ⟨rfl, rfl, by omega, ?_⟩
        unfold dapplyR
        rw [he, if_neg (by simp), if_neg (by omega), hse]
  | true =>
    rw [ht] at hh
    simp only [if_true] at hh
    have hp : plc c.key ds < ds.length := by
      rcases Nat.lt_or_ge (plc c.key ds) ds.length with h | h
      · exact h
      · rw [thD_no (by omega)] at ht; cases ht
    have hkey : ds[plc c.key ds].key = c.key := by rw [thD_at hp] at ht; simpa using ht
    have hlk := lookD_hit hp hd.srt hkey
    have hgood := (hd.good _ (List.getElem_mem hp)).1
    by_cases he : ds[plc c.key ds].val = vl c
    · have hg : c.gone = false := by
        cases hg : c.gone with
        | false => rfl
        | true => rw [he, hgv.2 hg] at hgood; exact absurd rfl hgood
      refine .inr (.inl ⟨_, List.getElem?_eq_getElem hp, hp, rfl, hg, hkey, he, ?_⟩)
      unfold dapplyR eff
      rw [hlk, he]; simp
    · have hef : eff ds c = true := by unfold eff; rw [hlk]; simpa using he
      cases hg : c.gone with
      | true =>
        refine .inr (.inr (.inl ⟨_, List.getElem?_eq_getElem hp, hp, rfl, rfl, hkey, he, ?_⟩))
        rw [if_pos (hgv.2 hg), hh] at hse hlen
        unfold dapplyR
        rw [hef, if_neg (by simp), if_neg (by simp at hlen; omega), hse]
        simp
      | false =>
        have hn : vl c ≠ [] := fun e => by rw [hgv.1 e] at hg; cases hg
        refine .inr (.inr (.inr (.inl ⟨_, List.getElem?_eq_getElem hp, hp, rfl, rfl, hkey, he, ?_⟩)))
        rw [if_neg hn, hh] at hse hlen
        rw [List.length_singleton] at hlen
        unfold dapplyR
        rw [hef, if_neg (by simp), if_neg (by omega), hse, List.set_eq_take_append_cons_drop, if_pos hp]
        simp
theorem own_lin {α : Type} {enc : α → List Value} {k : Nat} (hk : ∀ x, (enc x).length = k) {w : World} {base e n c : Nat} {A : Option Addr} {l : List α} (h : w.ownsRow base e k (.slice A n c) n (pcK enc l)) (hl : l.length = n) : LIn enc k w w.heap.size A n c l := by
  subst hl
  obtain ⟨A', c', hv, hA⟩ := LIn.own hk h
  injection hv with h1 _ h3
  subst h1 h3
  exact hA
theorem own_room {w : World} {base e k n c : Nat} {A : Option Addr} {xs : List Value} (h : w.ownsRow base e k (.slice A n c) n xs) : n ≤ c := by
  rcases h.2 with ⟨hv, h0⟩ | ⟨g, c', cur, hv, hb, hg, hnc, hrest⟩
  · omega
  · injection hv; omega
theorem own_off {w : World} {base e k n c b off m : Nat} {xs : List Value} (h : w.ownsRow base e k (.slice (some ⟨b, off, none⟩) m c) n xs) : off = 0 := by
  rcases h.2 with ⟨hv, h0⟩ | ⟨g, c', cur, hv, hb, hg, hnc, hrest⟩
  · injection hv with h1; cases h1
  · injection hv with h1; injection h1 with h1; injection h1 with h1 h2
theorem own_frozen {w : World} {base e k n c b m : Nat} {xs : List Value} (h : w.ownsRow base e k (.slice (some ⟨b, 0, none⟩) m c) n xs) (i : Nat) : w.frozen? ⟨b, i, none⟩ = false := by
  rcases h.2 with ⟨hv, h0⟩ | ⟨g, c', cur, hv, hb, hg, hnc, hrest⟩
  · injection hv with h1; cases h1
  · injection hv with h1; injection h1 with h1; injection h1 with h1 h2
    subst h1
    exact (show Blk w b e cur from hg).frozen i
def ApPost (B : Nat) (vu vd : Value) (X : Int × List Uc × List Rw) (w : World) (e : Ending) (w' : World) : Prop :=
  ∃ vu' vd', e = .returned (.int .i64 X.1) ∧ DvS B w' X.2.1 X.2.2 vu' vd' ∧ Beside (DvN B vu vd) w w'
set_option maxHeartbeats 8000000 in
set_option maxRecDepth 100000 in
theorem dapply_any (B : Nat) (us : List Uc) (ds : List Rw) (vu vd : Value) (c : Uc) (w : World) (h : DvS B w us ds vu vd) (hd : DlOk ds) (hc : okU c = true) (hn : us.length + 1 ≤ 1000) :
    Calls Try.prog 50 #[.pointer (some ⟨B, 0, none⟩), .bool c.gone, .agg #[str c.key, str (vl c)]] w (ApPost B vu vd (dapplyR us ds c) w) := by
  have hcs := ap_cases (us := us) hd hc
  have h6 := hd.few
  obtain ⟨A, cc, rfl, hA⟩ := LIn.own rc_len (show w.ownsRow (B + 1) 42 2 vd ds.length (pcK rc ds) from h.rd)
  obtain ⟨W, hW⟩ : ∃ W, w.alloc (.cells #[str c.key, str (vl c)] 42) = W := ⟨_, rfl⟩
  have hWB := Blk.new w 42 #[str c.key, str (vl c)]
  have hWb : Below w.heap.size w W := by rw [← hW]; exact (Below.refl _ _).alloc (Nat.le_refl _) _
  rw [hW] at hWB
  have x0 : W.cell? ⟨w.heap.size, 0, none⟩ = some (str c.key) := hWB.cell 0
  have HF := Lib.hid (findD_any B us ds vu (.slice A ds.length cc) c.key W (h.below hWb) (by omega))
  have HX := Lib.hid (show ∀ w1, Below W.heap.size W w1 → DvS B w1 us ds vu (.slice A ds.length cc) ∧ Blk w1 w.heap.size 42 #[str c.key, str (vl c)] ∧ Below w.heap.size w w1 from
    fun w1 hb => ⟨(h.below hWb).below hb, hWB.below hb hWB.lt, hWb.trans (hb.mono hWb.size)⟩)
  have hBw : B < w.heap.size := h.box.lt
  have hup : upd us.length c = ⟨(us.length : Int) + 1, us.length, c.key, vl c, c.gone⟩ := rfl
  have hds : ∀ g, (Value.slice A ds.length cc).ownBlock = some g → g < w.heap.size := fun g hg => (World.ownsRow.lt h.rd g hg).2
  have hrw : rwU c = ⟨c.key, vl c⟩ := rfl
  rw [hup, hrw] at hcs
  clear h hA hd hc hWB hWb hup hrw
  generalize dapplyR us ds c = X at *
  generalize vl c = v at *
  generalize c.key = k at *
  generalize c.gone = g at *
  generalize hP : plc k ds = P at *
  generalize thD k ds = th at *
  generalize hdn : ds.length = n at *
  have Hdn := Lib.hid hdn
  rcases hcs with ⟨rfl, rfl, hX⟩ | ⟨r, hr, hp, rfl, rfl, hk, hv, hX⟩ | ⟨r, hr, hp, rfl, rfl, hk, hv, hX⟩ | ⟨r, hr, hp, rfl, rfl, hk, hv, hX⟩ | ⟨rfl, rfl, h6', hX⟩ | ⟨rfl, rfl, h6', hX⟩
  · have HX9 := Lib.hid hX
    clear hX hdn hP
    go_enter Try.func50, Try.ntmps50
    go_wp2_with fail
    try rw [hW]
    refine HF.out.mono ?_
    rintro e w1 ⟨rfl, hb⟩
    obtain ⟨h1, hb1, hbe⟩ := HX.out w1 hb
    have Hx1 := Lib.hid h1
    have Hbe := Lib.hid hbe
    clear hb h1 hb1 hbe
    go_wp2_with fail
    go_ret
    rw [HX9.out]
    exact ⟨_, _, rfl, Hx1.out, Beside.of_below Hbe.out⟩
  · have HX9 := Lib.hid hX
    obtain ⟨rk, rv⟩ := r
    simp only at hk hv
    replace hk := hk.symm
    subst hk
    replace hv := hv.symm
    subst hv
    have Hr := Lib.hid hr
    have hpi : (P : Int) < (n : Int) := by omega
    have heq := fun W => eq_dev k v k v W
    have hgd := fun op x y W => gd_dev op x y k v k v W
    have hbb : (k == k && v == v) = true := by simp
    rw [hbb] at heq
    clear hX hdn hP hr hbb
    go_enter Try.func50, Try.ntmps50
    go_wp2_with fail
    try rw [hW]
    refine HF.out.mono ?_
    rintro e w1 ⟨rfl, hb⟩
    obtain ⟨h1, hb1, hbe⟩ := HX.out w1 hb
    obtain ⟨b, off, hAd, hbB, e0, e1⟩ := dv_at (own_lin rc_len (show w1.ownsRow (B + 1) 42 2 _ n (pcK rc ds) from by have := h1.rd; rwa [Hdn.out] at this) Hdn.out) (show P < ds.length by have := Hdn.out; omega)
    subst hAd
    rw [(List.getElem?_eq_some_iff.1 Hr.out).2] at e0 e1
    simp only at e0 e1
    have z1 : w1.cell? ⟨B, 1, none⟩ = some (.slice (some ⟨b, off, none⟩) n cc) := h1.box.cell 1
    have q0 : w1.cell? ⟨w.heap.size, 0, none⟩ = some (str k) := hb1.cell 0
    have q1 : w1.cell? ⟨w.heap.size, 1, none⟩ = some (str v) := hb1.cell 1
    have Hx1 := Lib.hid h1
    have Hbe := Lib.hid hbe
    clear hb h1 hb1 hbe
    go_wp2_with fail
    go_quiet (fail)
    go_wp2_with fail
    go_ret
    rw [HX9.out]
    exact ⟨_, _, rfl, Hx1.out.below (below_drewN (Below.refl _ _) _), Beside.of_below (below_drewN Hbe.out _)⟩
  · have HX9 := Lib.hid hX
    obtain ⟨rk, rv⟩ := r
    simp only at hk hv
    replace hk := hk.symm
    subst hk
    have Hv := Lib.hid hv
    have Hr := Lib.hid hr
    have hpi : (P : Int) < (n : Int) := by omega
    clear hX hdn hP hv hr
    go_enter Try.func50, Try.ntmps50
    go_wp2_with fail
    try rw [hW]
    refine HF.out.mono ?_
    rintro e w1 ⟨rfl, hb⟩
    obtain ⟨h1, hb1, hbe⟩ := HX.out w1 hb
    obtain ⟨b, off, hAd, hbB, e0, e1⟩ := dv_at (own_lin rc_len (show w1.ownsRow (B + 1) 42 2 _ n (pcK rc ds) from by have := h1.rd; rwa [Hdn.out] at this) Hdn.out) (show P < ds.length by have := Hdn.out; omega)
    subst hAd
    rw [(List.getElem?_eq_some_iff.1 Hr.out).2] at e0 e1
    simp only at e0 e1
    have hgB : b < w1.heap.size := hbB
    have z1 : w1.cell? ⟨B, 1, none⟩ = some (.slice (some ⟨b, off, none⟩) n cc) := h1.box.cell 1
    have q0 : w1.cell? ⟨w.heap.size, 0, none⟩ = some (str k) := hb1.cell 0
    have q1 : w1.cell? ⟨w.heap.size, 1, none⟩ = some (str v) := hb1.cell 1
    have Hx1 := Lib.hid h1
    have HB1 := Lib.hid hb1
    have Hbe := Lib.hid hbe
    have hle : w.heap.size ≤ w1.heap.size := hbe.size
    have heq := fun W => eq_dev k rv k v W
    have hgd := fun op x y W => gd_dev op x y k rv k v W
    have hbb : (k == k && rv == v) = false := by simpa using Hv.out
    rw [hbb] at heq
    clear hb h1 hb1 hbe hbb
    go_wp2_with fail
    go_quiet (fail)
    obtain ⟨Wq, hq⟩ : ∃ Wq, w1.drewN nq = Wq := ⟨_, rfl⟩
    have hqb : Below w1.heap.size w1 Wq := by rw [← hq]; exact below_drewN (Below.refl _ _) _
    have hxq := Hx1.out.below hqb
    have hBq := HB1.out.below hqb HB1.out.lt
    have zq : Wq.cell? ⟨B, 1, none⟩ = some (.slice (some ⟨b, off, none⟩) n cc) := hxq.box.cell 1
    have hbeq : Below w.heap.size w Wq := Hbe.out.trans (hqb.mono (by omega))
    have hlq : w.heap.size ≤ Wq.heap.size := Nat.le_trans hle hqb.size
    rw [hq]
    clear z1 q0 q1 e0 e1 hqb hq
    have hnc : n ≤ cc := own_room (show Wq.ownsRow (B + 1) 42 2 (.slice (some ⟨b, off, none⟩) n cc) n (pcR ds) by have := hxq.rd; rwa [Hdn.out] at this)
    have HD := delD_any (B + 1) n cc P (P + 1) (some ⟨b, off, none⟩) ds Wq (show Wq.ownsRow (B + 1) 42 2 _ n (pcR ds) by have := hxq.rd; rwa [Hdn.out] at this) (.inr rfl) hp (by omega) hnc
    rw [show ((P + 1 : Nat) : Int) = (P : Int) + 1 by omega, show n - (P + 1 - P) = n - 1 by omega] at HD
    have HD := Lib.hid HD
    have Hxq := Lib.hid hxq
    have HBq := Lib.hid hBq
    have Hbeq := Lib.hid hbeq
    clear hxq hBq hbeq
    go_wp2_with fail
    refine HD.out.mono ?_
    rintro e w2 ⟨rfl, ho2, hg2⟩
    have hln : (ds.take P ++ ds.drop (P + 1)).length = n - 1 := by have := Hdn.out; rw [List.length_append, List.length_take, List.length_drop]; omega
    obtain ⟨y2, yf2, hx3, hbs3⟩ := Hxq.out.dev (v' := .slice (some ⟨b, off, none⟩) (n - 1) cc) (ds' := ds.take P ++ ds.drop (P + 1)) hg2 (by rw [hln]; exact ho2) (fun g hg => .inl hg)
    have hB2 := HBq.out.grown hg2 (fun e => by have := hds _ e.symm; omega)
    obtain ⟨W3, hW3⟩ : ∃ W3, w2.setCell ⟨B, 1, none⟩ (.slice (some ⟨b, off, none⟩) (n - 1) cc) = W3 := ⟨_, rfl⟩
    have hB3 : Blk W3 w.heap.size 42 #[str k, str v] := by rw [← hW3]; exact hB2.far (by show w.heap.size ≠ B; omega) _
    have hbe3 : Beside (DvN B vu (.slice (some ⟨b, off, none⟩) n cc)) w W3 := by rw [← hW3]; exact (Beside.of_below Hbeq.out).trans hbs3
    have hN3 : ∀ k, k < w.heap.size → DvN B vu (.slice (some ⟨b, off, none⟩) (n - 1) cc) k → DvN B vu (.slice (some ⟨b, off, none⟩) n cc) k := fun _ _ h => h
    rw [hW3] at hx3
    have s0 : W3.cell? ⟨w.heap.size, 0, none⟩ = some (str k) := hB3.cell 0
    have s1 : W3.cell? ⟨w.heap.size, 1, none⟩ = some (str v) := hB3.cell 1
    clear ho2 hg2 hbs3 hB2 HD
    have s0 : W3.cell? ⟨w.heap.size, 0, none⟩ = some (str k) := hB3.cell 0
    have s1 : W3.cell? ⟨w.heap.size, 1, none⟩ = some (str v) := hB3.cell 1
    have HN := Lib.hid hN3
    have HU := Lib.hid (addUpdate_any B us (ds.take P ++ ds.drop (P + 1)) vu _ k v true W3 hx3 hn)
    have Hbe3 := Lib.hid hbe3
    clear hx3 hB3 hbe3 hN3
    go_wp2_with fail
    refine HU.out.mono ?_
    rintro e w4 ⟨vu', rfl, hx4, hb4⟩
    have Hx4 := Lib.hid hx4
    have Hb4 := Lib.hid (Hbe3.out.next hb4 HN.out)
    clear hx4 hb4 HU
    go_wp2_with fail
    go_ret
    rw [HX9.out]
    exact ⟨_, _, rfl, Hx4.out, Hb4.out⟩
  · have HX9 := Lib.hid hX
    obtain ⟨rk, rv⟩ := r
    simp only at hk hv
    replace hk := hk.symm
    subst hk
    have Hv := Lib.hid hv
    have Hr := Lib.hid hr
    have hpi : (P : Int) < (n : Int) := by omega
    clear hX hdn hP hv hr
    go_enter Try.func50, Try.ntmps50
    go_wp2_with fail
    try rw [hW]
    refine HF.out.mono ?_
    rintro e w1 ⟨rfl, hb⟩
    obtain ⟨h1, hb1, hbe⟩ := HX.out w1 hb
    obtain ⟨b, off, hAd, hbB, e0, e1⟩ := dv_at (own_lin rc_len (show w1.ownsRow (B + 1) 42 2 _ n (pcK rc ds) from by have := h1.rd; rwa [Hdn.out] at this) Hdn.out) (show P < ds.length by have := Hdn.out; omega)
    subst hAd
    rw [(List.getElem?_eq_some_iff.1 Hr.out).2] at e0 e1
    simp only at e0 e1
    have hgB : b < w1.heap.size := hbB
    have z1 : w1.cell? ⟨B, 1, none⟩ = some (.slice (some ⟨b, off, none⟩) n cc) := h1.box.cell 1
    have q0 : w1.cell? ⟨w.heap.size, 0, none⟩ = some (str k) := hb1.cell 0
    have q1 : w1.cell? ⟨w.heap.size, 1, none⟩ = some (str v) := hb1.cell 1
    have Hx1 := Lib.hid h1
    have HB1 := Lib.hid hb1
    have Hbe := Lib.hid hbe
    have hle : w.heap.size ≤ w1.heap.size := hbe.size
    have heq := fun W => eq_dev k rv k v W
    have hgd := fun op x y W => gd_dev op x y k rv k v W
    have hbb : (k == k && rv == v) = false := by simpa using Hv.out
    rw [hbb] at heq
    clear hb h1 hb1 hbe hbb
    go_wp2_with fail
    go_quiet (fail)
    obtain ⟨Wq, hq⟩ : ∃ Wq, w1.drewN nq = Wq := ⟨_, rfl⟩
    have hqb : Below w1.heap.size w1 Wq := by rw [← hq]; exact below_drewN (Below.refl _ _) _
    have hxq := Hx1.out.below hqb
    have hBq := HB1.out.below hqb HB1.out.lt
    have zq : Wq.cell? ⟨B, 1, none⟩ = some (.slice (some ⟨b, off, none⟩) n cc) := hxq.box.cell 1
    have hbeq : Below w.heap.size w Wq := Hbe.out.trans (hqb.mono (by omega))
    have hlq : w.heap.size ≤ Wq.heap.size := Nat.le_trans hle hqb.size
    rw [hq]
    clear z1 q0 q1 e0 e1 hqb hq
    obtain ⟨Wd, hWd⟩ : ∃ Wd, Wq.drew = Wd := ⟨_, rfl⟩
    have hbd : Below Wq.heap.size Wq Wd := by rw [← hWd]; exact below_drewN (Below.refl _ _) 1
    have hxd := hxq.below hbd
    have hBd := hBq.below hbd hBq.lt
    have hoff := own_off hxd.rd
    subst hoff
    obtain ⟨b', off', hAd', hbB', e0, e1⟩ := dv_at (own_lin rc_len (show Wd.ownsRow (B + 1) 42 2 _ n (pcK rc ds) from by have := hxd.rd; rwa [Hdn.out] at this) Hdn.out) (show P < ds.length by have := Hdn.out; omega)
    have hbb' : b = b' ∧ 0 = off' := by injection hAd' with h; injection h with h1 h2; exact ⟨h1, h2⟩
    obtain ⟨rfl, rfl⟩ := hbb'
    have fr := fun i => own_frozen hxd.rd i
    have fr0 := fr (0 + P * 2)
    have fr1 := fr (0 + P * 2 + 1)
    have how := dv_own_set (x := ⟨k, v⟩) (show Wd.ownsRow (B + 1) 42 2 (.slice (some ⟨b, 0, none⟩) n cc) n (pcR ds) by have := hxd.rd; rwa [Hdn.out] at this) (show P < ds.length by have := Hdn.out; omega)
    have hgr : Wd.grownBy ((Wd.setCell ⟨b, P * 2, none⟩ (str k)).setCell ⟨b, P * 2 + 1, none⟩ (str v)) (Value.slice (some ⟨b, 0, none⟩) n cc).ownBlock :=
      only_setCell (g := b) (p := ⟨b, P * 2 + 1, none⟩) (only_setCell (g := b) (p := ⟨b, P * 2, none⟩) (World.grownBy.refl _ _) (.inl rfl) _) (.inl rfl) _
    obtain ⟨W3, hW3⟩ : ∃ W3, (Wd.setCell ⟨b, P * 2, none⟩ (str k)).setCell ⟨b, P * 2 + 1, none⟩ (str v) = W3 := ⟨_, rfl⟩
    rw [hW3] at hgr how
    have hx3 : DvS B W3 us (ds.set P ⟨k, v⟩) vu (.slice (some ⟨b, 0, none⟩) n cc) := (hxd.turn (ds' := ds.set P ⟨k, v⟩) hgr (by rw [List.length_set, Hdn.out]; exact how)).1
    have hbs3 := (hxd.turn (ds' := ds.set P ⟨k, v⟩) hgr (by rw [List.length_set, Hdn.out]; exact how)).2
    have hB3 := hBd.grown hgr (fun e => by have := hds _ e.symm; omega)
    have hbe3 : Beside (DvN B vu (.slice (some ⟨b, 0, none⟩) n cc)) w W3 := (Beside.of_below (hbeq.trans (hbd.mono hlq))).trans hbs3
    have hN3 : ∀ k, k < w.heap.size → DvN B vu (.slice (some ⟨b, 0, none⟩) n cc) k → DvN B vu (.slice (some ⟨b, 0, none⟩) n cc) k := fun _ _ h => h
    have hS0 : Wd.cell? ⟨B, 1, none⟩ = some (.slice (some ⟨b, 0, none⟩) n cc) ∧ Wd.cell? ⟨w.heap.size, 0, none⟩ = some (str k) ∧ Wd.cell? ⟨w.heap.size, 1, none⟩ = some (str v) := ⟨hxd.box.cell 1, hBd.cell 0, hBd.cell 1⟩
    clear hxd hBd hbd hxq hBq hbeq hAd' hbs3 hgr how fr hbB'
    go_wp2_with fail
    refine region_S (fun w' => w'.cell? ⟨B, 1, none⟩ = some (.slice (some ⟨b, 0, none⟩) n cc) ∧ w'.cell? ⟨w.heap.size, 0, none⟩ = some (str k) ∧ w'.cell? ⟨w.heap.size, 1, none⟩ = some (str v)) [7] (by kernel_rfl) ?_
    rw [hWd]
    refine anyS_take 0 (v := .pointer (some ⟨B, 0, none⟩)) rfl (by kernel_rfl) (by kernel_rfl) (by kernel_rfl) (by kernel_rfl) (fun _ _ _ h => h) (.inl ⟨by kernel_rfl, fun w' hS' => by kernel_rfl⟩) hS0 ?_
    refine anyS_take 1 (v := .pointer (some ⟨B, 0, none⟩)) rfl (by kernel_rfl) (by kernel_rfl) (by kernel_rfl) (by kernel_rfl) (fun _ _ _ h => h) (.inl ⟨by kernel_rfl, fun w' hS' => by go_simp⟩) hS0 ?_
    refine anyS_take 2 (v := .pointer (some ⟨B, 1, none⟩)) rfl (by kernel_rfl) (by kernel_rfl) (by kernel_rfl) (by kernel_rfl) (fun _ _ _ h => h) (.inl ⟨by kernel_rfl, fun w' hS' => by go_simp⟩) hS0 ?_
    refine anyS_take 3 (v := .slice (some ⟨b, 0, none⟩) n cc) rfl (by kernel_rfl) (by kernel_rfl) (by kernel_rfl) (by kernel_rfl) (fun _ _ _ h => h) (.inl ⟨by kernel_rfl, fun w' hS' => by obtain ⟨s0, s1, s2⟩ := hS'; go_simp⟩) hS0 ?_
    refine anyS_take 4 (v := .int .i64 (P : Int)) rfl (by kernel_rfl) (by kernel_rfl) (by kernel_rfl) (by kernel_rfl) (fun _ _ _ h => h) (.inl ⟨by kernel_rfl, fun w' hS' => by kernel_rfl⟩) hS0 ?_
    refine anyS_take 5 (v := .agg #[str k, str v]) rfl (by kernel_rfl) (by kernel_rfl) (by kernel_rfl) (by kernel_rfl) (fun _ _ _ h => h) (.inl ⟨by kernel_rfl, fun w' hS' => by obtain ⟨s0, s1, s2⟩ := hS'; go_simp⟩) hS0 ?_
    refine anyS_take 6 (v := .pointer (some ⟨b, 0 + P * 2, none⟩)) rfl (by kernel_rfl) (by kernel_rfl) (by kernel_rfl) (by kernel_rfl) (fun _ _ _ h => h) (.inl ⟨by kernel_rfl, fun w' hS' => by go_simp⟩) hS0 ?_
    refine anyS_one 7 rfl (by kernel_rfl) rfl ?_
    intro K7 hK7
    simp only [Nat.zero_add] at e0 e1 fr0 fr1
    go_simp
    try rw [hW3]
    refine hK7 _ _ ⟨fun h => absurd (List.mem_singleton.2 rfl) h, ?_⟩
    refine anyS_done (by kernel_rfl) ?_
    clear hK7 hS0 e0 e1 fr0 fr1
    have s0 : W3.cell? ⟨w.heap.size, 0, none⟩ = some (str k) := hB3.cell 0
    have s1 : W3.cell? ⟨w.heap.size, 1, none⟩ = some (str v) := hB3.cell 1
    have HN := Lib.hid hN3
    have HU := Lib.hid (addUpdate_any B us (ds.set P ⟨k, v⟩) vu _ k v false W3 hx3 hn)
    have Hbe3 := Lib.hid hbe3
    clear hx3 hB3 hbe3 hN3
    go_wp2_with fail
    refine HU.out.mono ?_
    rintro e w4 ⟨vu', rfl, hx4, hb4⟩
    have Hx4 := Lib.hid hx4
    have Hb4 := Lib.hid (Hbe3.out.next hb4 HN.out)
    clear hx4 hb4 HU
    go_wp2_with fail
    go_ret
    rw [HX9.out]
    exact ⟨_, _, rfl, Hx4.out, Hb4.out⟩
  · have HX9 := Lib.hid hX
    have h6i : (6 : Int) ≤ (n : Int) := by omega
    clear hX hdn hP
    go_enter Try.func50, Try.ntmps50
    go_wp2_with fail
    try rw [hW]
    refine HF.out.mono ?_
    rintro e w1 ⟨rfl, hb⟩
    obtain ⟨h1, hb1, hbe⟩ := HX.out w1 hb
    have z1 : w1.cell? ⟨B, 1, none⟩ = some (.slice A n cc) := h1.box.cell 1
    have Hx1 := Lib.hid h1
    have Hbe := Lib.hid hbe
    clear hb h1 hb1 hbe
    go_wp2_with fail
    go_quiet (fail)
    go_wp2_with fail
    go_ret
    rw [HX9.out]
    exact ⟨_, _, rfl, Hx1.out.below (below_drewN (Below.refl _ _) _), Beside.of_below (below_drewN Hbe.out _)⟩
  · have HX9 := Lib.hid hX
    have h6i : ¬ (6 : Int) ≤ (n : Int) := by omega
    have hPn : P ≤ n := by rw [← hP, ← hdn]; exact plc_le k ds
    clear hX hdn hP
    go_enter Try.func50, Try.ntmps50
    go_wp2_with fail
    try rw [hW]
    refine HF.out.mono ?_
    rintro e w1 ⟨rfl, hb⟩
    obtain ⟨h1, hb1, hbe⟩ := HX.out w1 hb
    have z1 : w1.cell? ⟨B, 1, none⟩ = some (.slice A n cc) := h1.box.cell 1
    have Hx1 := Lib.hid h1
    have HB1 := Lib.hid hb1
    have Hbe := Lib.hid hbe
    have hle : w.heap.size ≤ w1.heap.size := hbe.size
    clear hb h1 hb1 hbe
    go_wp2_with fail
    go_quiet (fail)
    obtain ⟨Wq, hq⟩ : ∃ Wq, w1.drewN nq = Wq := ⟨_, rfl⟩
    have hqb : Below w1.heap.size w1 Wq := by rw [← hq]; exact below_drewN (Below.refl _ _) _
    have hxq := Hx1.out.below hqb
    have hBq := HB1.out.below hqb HB1.out.lt
    have zq : Wq.cell? ⟨B, 1, none⟩ = some (.slice A n cc) := hxq.box.cell 1
    have hbeq : Below w.heap.size w Wq := Hbe.out.trans (hqb.mono (by omega))
    have hlq : w.heap.size ≤ Wq.heap.size := Nat.le_trans hle hqb.size
    rw [hq]
    clear z1 hqb hq
    obtain ⟨Wd, hWd⟩ : ∃ Wd, Wq.drew = Wd := ⟨_, rfl⟩
    have hbd : Below Wq.heap.size Wq Wd := by rw [← hWd]; exact below_drewN (Below.refl _ _) 1
    have hxd := hxq.below hbd
    have hBd := hBq.below hbd hBq.lt
    have hld : w.heap.size ≤ Wd.heap.size := Nat.le_trans hlq hbd.size
    have hbed : Below w.heap.size w Wd := hbeq.trans (hbd.mono hlq)
    have hba : Below Wd.heap.size Wd (Wd.alloc (.cells #[str k, str v] 42)) := (Below.refl _ _).alloc (Nat.le_refl _) _
    have hxa := hxd.below hba
    have hBa := hBd.below hba hBd.lt
    have hnew := Blk.new Wd 42 #[str k, str v]
    have hrow : (Wd.alloc (.cells #[str k, str v] 42)).ownsRow (B + 1) 42 2 (.slice A n cc) n (pcR ds) := by have := hxa.rd; rwa [Hdn.out] at this
    have HI := Lib.hid (insD_own (B + 1) n P Wd.heap.size (.slice A n cc) (pcR ds) [str k, str v] (Wd.alloc (.cells #[str k, str v] 42)) hrow hPn (by omega) (by simp; omega) hnew (fun e => by have := hds _ e.symm; omega) rfl (pcR_one ds) (by intro u hu; simp at hu; rcases hu with rfl | rfl <;> rfl))
    have hS0 : Wd.cell? ⟨B, 1, none⟩ = some (.slice A n cc) ∧ Wd.cell? ⟨w.heap.size, 0, none⟩ = some (str k) ∧ Wd.cell? ⟨w.heap.size, 1, none⟩ = some (str v) := ⟨hxd.box.cell 1, hBd.cell 0, hBd.cell 1⟩
    have hS1 : (Wd.alloc (.cells #[str k, str v] 42)).cell? ⟨B, 1, none⟩ = some (.slice A n cc) ∧ (Wd.alloc (.cells #[str k, str v] 42)).cell? ⟨w.heap.size, 0, none⟩ = some (str k) ∧ (Wd.alloc (.cells #[str k, str v] 42)).cell? ⟨w.heap.size, 1, none⟩ = some (str v) := ⟨hxa.box.cell 1, hBa.cell 0, hBa.cell 1⟩
    have Hxa := Lib.hid hxa
    have HBa := Lib.hid hBa
    have Hbea := Lib.hid (hbed.trans (hba.mono hld))
    clear hxd hBd hbd hxq hBq hbeq hxa hBa hnew hrow hbed hba
    go_wp2_with fail
    refine region_S (fun w' => w'.cell? ⟨B, 1, none⟩ = some (.slice A n cc) ∧ w'.cell? ⟨w.heap.size, 0, none⟩ = some (str k) ∧ w'.cell? ⟨w.heap.size, 1, none⟩ = some (str v)) [11] (by kernel_rfl) ?_
    rw [hWd]
    refine anyS_take 0 (v := .pointer (some ⟨B, 0, none⟩)) rfl (by kernel_rfl) (by kernel_rfl) (by kernel_rfl) (by kernel_rfl) (fun _ _ _ h => h) (.inl ⟨by kernel_rfl, fun w' hS' => by kernel_rfl⟩) hS0 ?_
    refine anyS_take 1 (v := .pointer (some ⟨B, 0, none⟩)) rfl (by kernel_rfl) (by kernel_rfl) (by kernel_rfl) (by kernel_rfl) (fun _ _ _ h => h) (.inl ⟨by kernel_rfl, fun w' hS' => by kernel_rfl⟩) hS0 ?_
    refine anyS_take 2 (v := .pointer (some ⟨B, 0, none⟩)) rfl (by kernel_rfl) (by kernel_rfl) (by kernel_rfl) (by kernel_rfl) (fun _ _ _ h => h) (.inl ⟨by kernel_rfl, fun w' hS' => by go_simp⟩) hS0 ?_
    refine anyS_take 3 (v := .pointer (some ⟨B, 1, none⟩)) rfl (by kernel_rfl) (by kernel_rfl) (by kernel_rfl) (by kernel_rfl) (fun _ _ _ h => h) (.inl ⟨by kernel_rfl, fun w' hS' => by go_simp⟩) hS0 ?_
    refine anyS_take 4 (v := .slice A n cc) rfl (by kernel_rfl) (by kernel_rfl) (by kernel_rfl) (by kernel_rfl) (fun _ _ _ h => h) (.inl ⟨by kernel_rfl, fun w' hS' => by obtain ⟨s0, s1, s2⟩ := hS'; go_simp⟩) hS0 ?_
    refine anyS_take 5 (v := .int .i64 (P : Int)) rfl (by kernel_rfl) (by kernel_rfl) (by kernel_rfl) (by kernel_rfl) (fun _ _ _ h => h) (.inl ⟨by kernel_rfl, fun w' hS' => by kernel_rfl⟩) hS0 ?_
    refine anyS_take 6 (v := .agg #[str k, str v]) rfl (by kernel_rfl) (by kernel_rfl) (by kernel_rfl) (by kernel_rfl) (fun _ _ _ h => h) (.inl ⟨by kernel_rfl, fun w' hS' => by obtain ⟨s0, s1, s2⟩ := hS'; go_simp⟩) hS0 ?_
    refine anyS_one 7 rfl (by kernel_rfl) rfl ?_
    intro K7 hK7
    go_simp
    refine hK7 _ _ ⟨fun _ => hS1, ?_⟩
    refine anyS_one 8 rfl (by kernel_rfl) rfl ?_
    intro K8 hK8
    go_simp
    refine HI.out.mono ?_
    rintro e w2 ⟨v', rfl, ho2, hg2, hor2⟩
    have hpc : (pcR ds).take (P * 2) ++ [str k, str v] ++ (pcR ds).drop (P * 2) = pcR (ds.take P ++ [(⟨k, v⟩ : Rw)] ++ ds.drop P) := by rw [pcR_app, pcR_app, ← pcR_take, ← pcR_drop]; rfl
    have hln : (ds.take P ++ [(⟨k, v⟩ : Rw)] ++ ds.drop P).length = n + 1 := by have := Hdn.out; rw [List.length_append, List.length_append, List.length_take, List.length_drop, List.length_singleton]; omega
    rw [hpc] at ho2
    obtain ⟨y2, yf2, hx3, hbs3⟩ := Hxa.out.dev (ds' := ds.take P ++ [(⟨k, v⟩ : Rw)] ++ ds.drop P) hg2 (by rw [hln]; exact ho2) (fun g hg => by
      rcases hor2 with e | e
      · exact .inl (by rw [← e]; exact hg)
      · rw [hg] at e; injection e with e; exact .inr (by omega))
    have hB2 := HBa.out.grown hg2 (fun e => by have := hds _ e.symm; omega)
    have hS2 : w2.cell? ⟨B, 1, none⟩ = some (.slice A n cc) ∧ w2.cell? ⟨w.heap.size, 0, none⟩ = some (str k) ∧ w2.cell? ⟨w.heap.size, 1, none⟩ = some (str v) := ⟨y2, hB2.cell 0, hB2.cell 1⟩
    obtain ⟨A', c', rfl, -⟩ := own_form ho2
    obtain ⟨W3, hW3⟩ : ∃ W3, w2.setCell ⟨B, 1, none⟩ (.slice A' (n + 1) c') = W3 := ⟨_, rfl⟩
    have hB3 : Blk W3 w.heap.size 42 #[str k, str v] := by rw [← hW3]; exact hB2.far (by show w.heap.size ≠ B; omega) _
    have hbe3 : Beside (DvN B vu (.slice A n cc)) w W3 := by rw [← hW3]; exact (Beside.of_below Hbea.out).trans hbs3
    have hN3 : ∀ k, k < w.heap.size → DvN B vu (.slice A' (n + 1) c') k → DvN B vu (.slice A n cc) k := fun k hk hN => by
      rcases hN with e | e | e
      · exact .inl e
      · exact .inr (.inl e)
      · rcases hor2 with e2 | e2
        · exact .inr (.inr (by rw [← e2]; exact e))
        · rw [e] at e2; injection e2 with e2; simp at e2; omega
    rw [hW3] at hx3
    clear ho2 hg2 hor2 hbs3 hB2 HI hpc
    refine hK8 _ _ ⟨fun _ => hS2, ?_⟩
    refine anyS_one 9 rfl (by kernel_rfl) rfl ?_
    intro K9 hK9
    go_simp
    refine hK9 _ _ ⟨fun _ => hS2, ?_⟩
    refine anyS_one 10 rfl (by kernel_rfl) rfl ?_
    intro K10 hK10
    go_simp
    refine hK10 _ _ ⟨fun _ => hS2, ?_⟩
    refine anyS_one 11 rfl (by kernel_rfl) rfl ?_
    intro K11 hK11
    have c0 := hS2.1
    go_simp
    try rw [hW3]
    refine hK11 _ _ ⟨fun h => absurd (List.mem_singleton.2 rfl) h, ?_⟩
    refine anyS_done (by kernel_rfl) ?_
    clear hK7 hK8 hK9 hK10 hK11 hS0 hS1 hS2 c0 y2 yf2
    have s0 : W3.cell? ⟨w.heap.size, 0, none⟩ = some (str k) := hB3.cell 0
    have s1 : W3.cell? ⟨w.heap.size, 1, none⟩ = some (str v) := hB3.cell 1
    have HN := Lib.hid hN3
    have HU := Lib.hid (addUpdate_any B us (ds.take P ++ [(⟨k, v⟩ : Rw)] ++ ds.drop P) vu _ k v false W3 hx3 hn)
    have Hbe3 := Lib.hid hbe3
    clear hx3 hB3 hbe3 hN3
    go_wp2_with fail
    refine HU.out.mono ?_
    rintro e w4 ⟨vu', rfl, hx4, hb4⟩
    have Hx4 := Lib.hid hx4
    have Hb4 := Lib.hid (Hbe3.out.next hb4 HN.out)
    clear hx4 hb4 HU
    go_wp2_with fail
    go_ret
    rw [HX9.out]
    exact ⟨_, _, rfl, Hx4.out, Hb4.out⟩
end Go.Proofs.Ytmlgaedhfannmaa

/- Device lists: played, listing, Play. -/
namespace Go.Proofs.Ytmlgaedhfannmaa
set_option linter.unusedVariables false
set_option linter.unusedSimpArgs false
open Go.RowKit
theorem playD_step {c : Uc} {r us : List Uc} {ds : List Rw} (hc : okU c = true) :
    playD (c :: r) us ds = if (dapplyR us ds c).1 ≠ 0 then ((dapplyR us ds c).1, [], []) else playD r (dapplyR us ds c).2.1 (dapplyR us ds c).2.2 := by
  rw [playD, if_neg (by simp [hc])]
  unfold dapplyR
  by_cases h1 : eff ds c = false
  · rw [if_pos h1, if_pos h1]; simp
  · rw [if_neg h1, if_neg h1]
    by_cases h2 : 6 < (setR (rwU c) ds).length
    · rw [if_pos h2, if_pos h2]; simp
    · rw [if_neg h2, if_neg h2]; simp
theorem dapplyR_ok {c : Uc} {us : List Uc} {ds : List Rw} (hc : okU c = true) (hu : UsOk us) (hd : DlOk ds) : UsOk (dapplyR us ds c).2.1 ∧ DlOk (dapplyR us ds c).2.2 ∧ (dapplyR us ds c).2.1.length ≤ us.length + 1 := by
  unfold dapplyR
  split
  · exact ⟨hu, hd, by simp⟩
  · split
    · exact ⟨hu, hd, by simp⟩
    · rename_i h6
      exact ⟨hu.push hc, hd.step hc h6, by simp⟩
def PdPost (X : Int × List Uc × List Rw) (w : World) (e : Ending) (w' : World) : Prop :=
  (X.1 = 0 ∧ ∃ vu vd, e = .returned (.tuple #[.pointer (some ⟨w.heap.size, 0, none⟩), .int .i64 0]) ∧ DvS w.heap.size w' X.2.1 X.2.2 vu vd ∧ Below w.heap.size w w') ∨
  (X.1 ≠ 0 ∧ e = .returned (.tuple #[.pointer none, .int .i64 X.1]) ∧ Below w.heap.size w w')
def PdR (l : List Uc) (w : World) (n : Nat) (gk : Nat) (s15 : Value) (wr : World) : Prop :=
  ∃ k us ds vu vd, s15 = .int .i64 (k : Nat) ∧ k ≤ n ∧ gk = n - k ∧ DvS w.heap.size wr us ds vu vd ∧ UsOk us ∧ DlOk ds ∧ us.length ≤ k ∧ playD (l.drop k) us ds = playD l [] [] ∧ Below w.heap.size w wr
set_option maxHeartbeats 4000000 in
set_option maxRecDepth 100000 in
theorem played_any (A : Option Addr) (n c B : Nat) (l : List Uc) (w : World) (hl : LIn ucL 5 w B A n c l) (hB : B ≤ w.heap.size) (hn : n ≤ 9223372036854775807) (hok : ∀ p ∈ l, UcOk p) :
    Calls Try.prog 31 #[.slice A n c] w (PdPost (playL l) w) := by
  have hln := hl.1
  by_cases hbig : 100 < n
  · have HE := Lib.hid (show playL l = (1, [], []) by unfold playL; rw [if_pos (by omega)])
    have hb : (100 : Int) < (n : Int) := by omega
    clear hl hln
    go_enter Try.func31, Try.ntmps31
    go_wp2_with fail
    go_ret2
    rw [HE.out]
    exact .inr ⟨by decide, rfl, Below.refl _ _⟩
  · have HE := Lib.hid (show playL l = playD l [] [] by unfold playL; rw [if_neg (by omega)])
    have hb : ¬ (100 : Int) < (n : Int) := by omega
    have Hl := Lib.hid hl
    have Hln := Lib.hid hln
    have Hok := Lib.hid hok
    clear hl hln hok
    obtain ⟨w1, hw1⟩ : ∃ w1, w.alloc (.cells #[.slice none 0 0, .slice none 0 0] 85) = w1 := ⟨_, rfl⟩
    have hx1 := dvS0 w
    have hb1 : Below w.heap.size w w1 := by rw [← hw1]; exact (Below.refl _ _).alloc (Nat.le_refl _) _
    rw [hw1] at hx1
    have Hst := Lib.hid (show PdR l w n n (.int .i64 0) w1 from ⟨0, [], [], _, _, rfl, Nat.zero_le _, by omega, hx1, usOk_nil, dsOk_nil, Nat.le_refl _, rfl, hb1⟩)
    clear hx1 hb1
    go_enter Try.func31, Try.ntmps31
    go_wp2_with fail
    go_loopg [15] n (PdR l w n)
    case atStart => exact Hst.out
    case round =>
      clear Hst
      obtain ⟨k, us, ds, vu, vd, rfl, hk, hgk, hx, hu, hd, hul, hpl, hbe⟩ := hrel
      have Hgk := Lib.hid hgk
      have Hbe := Lib.hid hbe
      have Hpl := Lib.hid hpl
      have Hu := Lib.hid hu
      have Hd := Lib.hid hd
      have Hx := Lib.hid hx
      have hszx := hx.size
      clear hgk hbe hpl hx hu hd
      by_cases hkn : k < n
      · have hkl : k < l.length := by rw [Hln.out]; exact hkn
        obtain ⟨b, off, hA, hbB, d0, d1, d2, d3, d4⟩ := uc_at (Hl.out.below (Hbe.out.mono hB)) hkl
        subst hA
        have hak := Hok.out l[k] (List.getElem_mem hkl)
        have HT := Lib.hid (show playD (l[k] :: l.drop (k + 1)) us ds = playD l [] [] by rw [← List.drop_eq_getElem_cons hkl]; exact Hpl.out)
        generalize l[k] = p at *
        obtain ⟨W, hW⟩ : ∃ W, wr.alloc (.cells #[.int .i64 p.st, .int .i64 p.pv, str p.key, str p.val, .bool p.gone] 44) = W := ⟨_, rfl⟩
        have hWB := Blk.new wr 44 #[.int .i64 p.st, .int .i64 p.pv, str p.key, str p.val, .bool p.gone]
        have hWb : Below wr.heap.size wr W := by rw [← hW]; exact (Below.refl _ _).alloc (Nat.le_refl _) _
        rw [hW] at hWB
        have x0 : W.cell? ⟨wr.heap.size, 0, none⟩ = some (.int .i64 p.st) := hWB.cell 0
        have x1 : W.cell? ⟨wr.heap.size, 1, none⟩ = some (.int .i64 p.pv) := hWB.cell 1
        have x2 : W.cell? ⟨wr.heap.size, 2, none⟩ = some (str p.key) := hWB.cell 2
        have x3 : W.cell? ⟨wr.heap.size, 3, none⟩ = some (str p.val) := hWB.cell 3
        have x4 : W.cell? ⟨wr.heap.size, 4, none⟩ = some (.bool p.gone) := hWB.cell 4
        have HV := Lib.hid (isValid_any p W hak)
        have hbw : b < wr.heap.size := by have := Hbe.out.size; omega
        have hi1 : (k : Int) < (n : Int) := by omega
        have HWb := Lib.hid hWb
        have HWB := Lib.hid hWB
        clear hWb hWB hak Hpl
        cases hc : okU p with
        | false =>
          have HX := Lib.hid (show playD l [] [] = (4, [], []) by rw [← HT.out, playD, if_pos hc])
          rw [hc] at HV
          clear hc HT
          go_wp2_with fail
          refine HV.out.mono ?_
          rintro e w2 ⟨rfl, hb2⟩
          have Hb2 := Lib.hid (Hbe.out.trans ((HWb.out.trans (hb2.mono HWb.out.size)).mono Hbe.out.size))
          clear hb2 HV
          go_wp2_with fail
          go_ret2
          rw [HE.out, HX.out]
          exact .inr ⟨by simp, rfl, Hb2.out⟩
        | true =>
          rw [hc] at HV
          rw [playD_step hc] at HT
          have Hap := Lib.hid (dapplyR_ok hc Hu.out Hd.out)
          have HU := Lib.hid (fun w2 => used_any p w2 hc)
          have HA := Lib.hid (fun w2 (h : DvS w.heap.size w2 us ds vu vd) => dapply_any w.heap.size us ds vu vd p w2 h Hd.out hc (by omega))
          generalize dapplyR us ds p = X at *
          obtain ⟨xe, xu, xd⟩ := X
          simp only at HT HA Hap
          clear hc
          go_wp2_with fail
          refine HV.out.mono ?_
          rintro e w2 ⟨rfl, hb2⟩
          have hbW2 := HWb.out.trans (hb2.mono HWb.out.size)
          obtain ⟨Wd, hWd⟩ : ∃ Wd, w2.drew = Wd := ⟨_, rfl⟩
          have hbd : Below w2.heap.size w2 Wd := by rw [← hWd]; exact below_drewN (Below.refl _ _) 1
          have hbWd := hbW2.trans (hbd.mono hbW2.size)
          have hBd := (HWB.out.below hb2 HWB.out.lt).below hbd (HWB.out.below hb2 HWB.out.lt).lt
          have HxD := Lib.hid (Hx.out.below hbWd)
          have HNo : Hid (¬ DvN w.heap.size vu vd wr.heap.size) := Lib.hid fun hN => by
            rcases hN with e | e | e
            · have := Hx.out.size; omega
            · have := (World.ownsRow.lt Hx.out.ru _ e).2; omega
            · have := (World.ownsRow.lt Hx.out.rd _ e).2; omega
          have HbD := Lib.hid (Hbe.out.trans (hbWd.mono Hbe.out.size))
          have hS0 : Blk Wd wr.heap.size 44 #[.int .i64 p.st, .int .i64 p.pv, str p.key, str p.val, .bool p.gone] := hBd
          have hlt := hS0.lt
          have HSk := Lib.hid (show ∀ w3, Below Wd.heap.size Wd w3 → Blk w3 wr.heap.size 44 #[.int .i64 p.st, .int .i64 p.pv, str p.key, str p.val, .bool p.gone] from fun w3 h => hBd.below h hBd.lt)
          clear hb2 HV hbW2 hbd hbWd hBd
          go_wp2_with fail
          refine region_S (fun w' => Blk w' wr.heap.size 44 #[.int .i64 p.st, .int .i64 p.pv, str p.key, str p.val, .bool p.gone]) [] (by kernel_rfl) ?_
          rw [hWd]
          refine anyS_take 0 (v := .pointer (some ⟨w.heap.size, 0, none⟩)) rfl (by kernel_rfl) (by kernel_rfl) (by kernel_rfl) (by kernel_rfl) (fun _ _ _ h => h) (.inl ⟨by kernel_rfl, fun w' hS' => by kernel_rfl⟩) hS0 ?_
          refine anyS_take 1 (v := .pointer (some ⟨wr.heap.size, 4, none⟩)) rfl (by kernel_rfl) (by kernel_rfl) (by kernel_rfl) (by kernel_rfl) (fun _ _ _ h => h) (.inl ⟨by kernel_rfl, fun w' hS' => by kernel_rfl⟩) hS0 ?_
          refine anyS_take 2 (v := .bool p.gone) rfl (by kernel_rfl) (by kernel_rfl) (by kernel_rfl) (by kernel_rfl) (fun _ _ _ h => h) (.inl ⟨by kernel_rfl, fun w' hS' => by have z0 := hS'.cell 0; have z1 := hS'.cell 1; have z2 := hS'.cell 2; have z3 := hS'.cell 3; have z4 := hS'.cell 4; simp at z0 z1 z2 z3 z4; go_simp⟩) hS0 ?_
          refine anyS_take 3 (v := .agg #[.int .i64 p.st, .int .i64 p.pv, str p.key, str p.val, .bool p.gone]) rfl (by kernel_rfl) (by kernel_rfl) (by kernel_rfl) (by kernel_rfl) (fun _ _ _ h => h) (.inl ⟨by kernel_rfl, fun w' hS' => by have z0 := hS'.cell 0; have z1 := hS'.cell 1; have z2 := hS'.cell 2; have z3 := hS'.cell 3; have z4 := hS'.cell 4; simp at z0 z1 z2 z3 z4; go_simp⟩) hS0 ?_
          refine anyS_one 4 rfl (by kernel_rfl) rfl ?_
          intro K4 hK4
          go_simp
          refine (HU.out Wd).mono ?_
          rintro e w3 ⟨rfl, hb3⟩
          refine hK4 _ _ ⟨fun _ => HSk.out w3 hb3, ?_⟩
          have HA3 := Lib.hid (HA.out w3 (HxD.out.below hb3))
          have Hb3 := Lib.hid (HbD.out.trans (hb3.mono HbD.out.size))
          refine anyS_one 5 rfl (by kernel_rfl) rfl ?_
          intro K5 hK5
          go_simp
          refine HA3.out.mono ?_
          rintro e w4 ⟨vu', vd', rfl, hx4, hb4⟩
          have hS4 : Blk w4 wr.heap.size 44 #[.int .i64 p.st, .int .i64 p.pv, str p.key, str p.val, .bool p.gone] := (hb4.block _ (HSk.out w3 hb3).lt HNo.out).trans (HSk.out w3 hb3)
          have hb4 := dvN_below (HxD.out.below hb3) hb4
          refine hK5 _ _ ⟨fun _ => hS4, ?_⟩
          refine anyS_one 6 rfl (by kernel_rfl) rfl ?_
          intro K6 hK6
          go_simp
          refine hK6 _ _ ⟨fun _ => hS4, ?_⟩
          refine anyS_done (by kernel_rfl) ?_
          have Hx4 := Lib.hid hx4
          have Hb4 := Lib.hid (Hb3.out.trans hb4)
          clear hK4 hK5 hK6 hx4 hb4 hS0 hS4 HSk HA3 HA HU HNo
          by_cases he : xe = 0
          · subst he
            have HT2 := Lib.hid (show playD (l.drop (k + 1)) xu xd = playD l [] [] by rw [← HT.out]; simp)
            clear HT
            go_wp2_with fail
            go_roundg (n - (k + 1))
            case measure => have := Hgk.out; omega
            case rel => exact ⟨k + 1, xu, xd, vu', vd', by go_num, by omega, rfl, Hx4.out, Hap.out.1, Hap.out.2.1, by have := Hap.out.2.2; omega, HT2.out, Hb4.out⟩
          · have HX := Lib.hid (show playD l [] [] = (xe, [], []) by rw [← HT.out, if_pos he])
            have hxe : (xe != 0) = true := by simpa using he
            clear HT
            go_wp2_with fail
            go_ret2
            rw [HE.out, HX.out]
            exact .inr ⟨he, rfl, Hb4.out⟩
      · have hi1 : ¬ (k : Int) < (n : Int) := by omega
        have HX := Lib.hid (show playD l [] [] = (0, us, ds) by rw [← Hpl.out, List.drop_eq_nil_of_le (by have := Hln.out; omega)]; rfl)
        clear Hpl
        go_wp2_with fail
        go_ret2
        rw [HE.out, HX.out]
        exact .inl ⟨rfl, vu, vd, rfl, Hx.out, Hbe.out⟩
end Go.Proofs.Ytmlgaedhfannmaa

/- Device lists: listing, Play. -/
namespace Go.Proofs.Ytmlgaedhfannmaa
set_option linter.unusedVariables false
set_option linter.unusedSimpArgs false
open Go.RowKit
theorem dev_box {W : World} {n : Nat} {u : Value} {l : List Rw} {r : Rw} {base : Nat} (ho : W.ownsRow base 42 2 u n (pcR l)) (hn : n + 1 ≤ 1048576) (hb : base ≤ W.heap.size) (cs : Array Value) (hcs : cs = #[str r.key, str r.val]) :
    ∃ v' wf, (Builtin.append_ #[23, 23] 23 #[u, .slice (some ⟨W.heap.size, 0, none⟩) 1 1]).run Try.prog (W.alloc (.cells cs 42)) = .ok v' wf ∧
      wf.ownsRow base 42 2 v' (n + 1) (pcR (l ++ [r])) ∧ W.grownBy wf u.ownBlock ∧ (v'.ownBlock = u.ownBlock ∨ v'.ownBlock = some (W.heap.size + 1)) := by
  obtain ⟨v', wf, h1, h2, h3, h4⟩ := run_app_el (P := Try.prog) (enc := rc) rc_len rc_one (by omega) Try.underlying23 info_dev rfl (by omega) W base n u l r cs (by rw [hcs]; rfl) ho hn hb
  exact ⟨v', wf, h1, h2, (World.grownBy_alloc W _ _).trans h3, h4⟩
theorem own_oth {w : World} {base e size n g j : Nat} {v u : Value} {xs : List Value} (h : w.ownsRow base e size v n xs) (hg : v.ownBlock ≠ some g) : (w.setCell ⟨g, j, none⟩ u).ownsRow base e size v n xs :=
  own_kept h fun k hk => Below.heap_setCell w _ _ k (by show k ≠ g; rintro rfl; exact hg hk)
/-- The end of a function whose one result is a list in memory. -/
theorem ret_lst {fn : Func} {R : Ending → World → Prop} {a : Act} {W : World} {g : Nat} {s1 : Tmp} {x0 x1 x2 : Value}
    (hf : fn.results = #[.cell s1 25]) (h1 : a.tmps.getD s1 undef = .pointer (some ⟨g, 0, none⟩))
    (hb : Blk W g 25 #[x0, x1, x2]) (hd : a.defers = []) (hR : R (.returned (.agg #[x0, x1, x2])) W) : bodyPost Try.prog fn R .ret a W := by
  refine bodyPost_ret ?_ hd hR
  have c0 := hb.cell 0
  have c1 := hb.cell 1
  have c2 := hb.cell 2
  simp only [Array.getD_eq_getD_getElem?] at h1
  simp [results, hf, h1, go_sem, c0, c1, c2]
theorem ret_lst3 {fn : Func} {R : Ending → World → Prop} {a : Act} {W : World} {g : Nat} {s0 s1 s2 : Tmp} {b0 b2 x0 x1 x2 : Value}
    (hf : fn.results = #[.tmp s0, .cell s1 25, .tmp s2]) (h1 : a.tmps.getD s1 undef = .pointer (some ⟨g, 0, none⟩)) (h0 : a.tmps.getD s0 undef = b0) (h2 : a.tmps.getD s2 undef = b2)
    (hb : Blk W g 25 #[x0, x1, x2]) (hd : a.defers = []) (hR : R (.returned (.tuple #[b0, .agg #[x0, x1, x2], b2])) W) : bodyPost Try.prog fn R .ret a W := by
  refine bodyPost_ret ?_ hd hR
  have c0 := hb.cell 0
  have c1 := hb.cell 1
  have c2 := hb.cell 2
  simp only [Array.getD_eq_getD_getElem?] at h1 h0 h2
  simp [results, hf, h1, h0, h2, go_sem, c0, c1, c2]
def LsR (ds : List Rw) (w : World) (n : Nat) (gk : Nat) (s3 s11 : Value) (wr : World) : Prop :=
  ∃ k : Nat, s11 = .int .i64 (k : Int) ∧ k ≤ n ∧ gk = n - k ∧ wr.ownsRow (w.heap.size + 1) 42 2 s3 k (pcR (ds.take k)) ∧ Blk wr w.heap.size 25 #[.int .i64 0, .bool false, .slice none 0 0] ∧ Below w.heap.size w wr
def LsPost (us : List Uc) (ds : List Rw) (w : World) (e : Ending) (w' : World) : Prop :=
  ∃ A c, e = .returned (.agg #[.int .i64 (us.length : Int), .bool false, .slice A ds.length c]) ∧ w'.ownsRow (w.heap.size + 1) 42 2 (.slice A ds.length c) ds.length (pcR ds) ∧ Below w.heap.size w w'
set_option maxHeartbeats 4000000 in
set_option maxRecDepth 100000 in
theorem listing_any (B : Nat) (us : List Uc) (ds : List Rw) (vu vd : Value) (w : World) (h : DvS B w us ds vu vd) (hd : DlOk ds) (hn : us.length ≤ 1000) :
    Calls Try.prog 32 #[.pointer (some ⟨B, 0, none⟩)] w (LsPost us ds w) := by
  have h6 := hd.few
  obtain ⟨Au, cu, rfl, -⟩ := LIn.own ucL_len h.ru
  obtain ⟨A, c, rfl, hA⟩ := LIn.own rc_len (show w.ownsRow (B + 1) 42 2 vd ds.length (pcK rc ds) from h.rd)
  obtain ⟨W, hW⟩ : ∃ W, w.alloc (.cells #[.int .i64 0, .bool false, .slice none 0 0] 25) = W := ⟨_, rfl⟩
  have hWB := Blk.new w 25 #[.int .i64 0, .bool false, .slice none 0 0]
  have hWb : Below w.heap.size w W := by rw [← hW]; exact (Below.refl _ _).alloc (Nat.le_refl _) _
  rw [hW] at hWB
  have hBw : B < w.heap.size := h.box.lt
  have x1 : w.cell? ⟨B, 1, none⟩ = some (.slice A ds.length c) := h.box.cell 1
  have y1 : W.cell? ⟨B, 1, none⟩ = some (.slice A ds.length c) := (h.below hWb).box.cell 1
  have x0 : w.cell? ⟨B, 0, none⟩ = some (.slice Au us.length cu) := h.box.cell 0
  have Hgood := Lib.hid hd.good
  have Hst := Lib.hid (show LsR ds w ds.length ds.length (.slice none 0 0) (.int .i64 0) W from ⟨0, rfl, Nat.zero_le _, by omega, by rw [List.take_zero]; exact World.ownsRow_nil _ _ _ _, hWB, hWb⟩)
  have HA := Lib.hid hA
  clear h hd hA hWB hWb
  obtain ⟨n, hn1⟩ : ∃ n, ds.length = n := ⟨_, rfl⟩
  have Hn := Lib.hid hn1
  simp only [hn1] at h6 x1 y1 Hst HA
  unfold LsPost
  rw [hn1]
  generalize us.length = m at *
  clear hn1
  go_enter Try.func32, Try.ntmps32
  go_wp2_with fail
  go_loopg [3, 11] n (LsR ds w n)
  case atStart => exact Hst.out
  case round =>
    clear Hst
    obtain ⟨k, rfl, hk, hgk, ho, hbl, hbe⟩ := hrel
    have Hgk := Lib.hid hgk
    have Hbe := Lib.hid hbe
    have Ho := Lib.hid ho
    have Hbl := Lib.hid hbl
    have hszw := hbe.size
    have hltl := hbl.lt
    clear hgk hbe ho hbl
    by_cases hkn : k < n
    · have hkl : k < ds.length := by rw [Hn.out]; exact hkn
      obtain ⟨b, off, hAd, hbB, c0, c1⟩ := dv_at (show LIn rc 2 wr w.heap.size A n c ds from HA.out.below Hbe.out) hkl
      subst hAd
      have hsh := Hgood.out ds[k] (List.getElem_mem _)
      have Htk := Lib.hid (List.take_succ_eq_append_getElem hkl)
      generalize ds[k] = r at *
      obtain ⟨rk, rv⟩ := r
      simp only at c0 c1 hsh
      have hi1 : ((k : Nat) : Int) < (n : Int) := by omega
      have hbw : b < wr.heap.size := by omega
      obtain ⟨W, hW⟩ : ∃ W, wr.alloc (.cells #[str rk, str rv] 42) = W := ⟨_, rfl⟩
      have hWb : Below wr.heap.size wr W := by rw [← hW]; exact (Below.refl _ _).alloc (Nat.le_refl _) _
      have hWB := Blk.new wr 42 #[str rk, str rv]
      rw [hW] at hWB
      have z0 : W.cell? ⟨wr.heap.size, 0, none⟩ = some (str rk) := hWB.cell 0
      have z1 : W.cell? ⟨wr.heap.size, 1, none⟩ = some (str rv) := hWB.cell 1
      have HC := Lib.hid (copiedD_any rk rv W hsh.2.2 hsh.2.1)
      have HWb := Lib.hid hWb
      clear hWb hWB hsh
      go_wp2_with fail
      refine HC.out.mono ?_
      rintro e w2 ⟨rfl, hb2⟩
      have hb3 := HWb.out.trans (hb2.mono HWb.out.size)
      have ho3 := own_below Ho.out hb3
      have hsz3 := hb3.size
      obtain ⟨v', wf, hrun, ho4, hg4, hor⟩ := dev_box (r := ⟨rk, rv⟩) ho3 (by omega) (by omega) #[str rk, str rv] rfl
      have hbf : Below w.heap.size w wf := (Hbe.out.trans (hb3.mono hszw)).grown hg4 (by omega) fun g hg => by have := (World.ownsRow.lt ho3 g hg).1; omega
      have hblf : Blk wf w.heap.size 25 #[.int .i64 0, .bool false, .slice none 0 0] := (Hbl.out.below hb3 hltl).grown hg4 (fun e => by have := (World.ownsRow.lt ho3 _ e.symm).1; omega)
      have Hrun := Lib.hid hrun
      have Ho4 := Lib.hid ho4
      have Hbf := Lib.hid hbf
      have Hblf := Lib.hid hblf
      clear hrun ho4 hg4 hor hbf hblf ho3 hb3 hb2 HC
      go_wp2_with (first | (at_builtin; refine dv_app rfl _ _ _ rfl _ _ (by rfl) (by rfl) Hrun.out ?_; clear Hrun) | fail)
      go_roundg (n - (k + 1))
      case measure => have := Hgk.out; omega
      case rel => exact ⟨k + 1, by go_num, by omega, rfl, by rw [Htk.out]; exact Ho4.out, Hblf.out, Hbf.out⟩
    · have hi1 : ¬ ((k : Nat) : Int) < (n : Int) := by omega
      have hkk : k = n := by omega
      subst hkk
      have ho := Ho.out
      rw [List.take_of_length_le (by have := Hn.out; omega)] at ho
      obtain ⟨A3, c3, rfl, -⟩ := own_form ho
      have u0 : wr.cell? ⟨B, 0, none⟩ = some (.slice Au m cu) := (Hbe.out.cell hBw).trans x0
      have b0 := Hbl.out.cell 0
      have b1 := Hbl.out.cell 1
      have b2 := Hbl.out.cell 2
      simp at b0 b1 b2
      have f0 := Hbl.out.frozen 0
      have f1 := Hbl.out.frozen 1
      have f2 := Hbl.out.frozen 2
      have HBx := Lib.hid (((Hbl.out.set_ 0 (.int .i64 (m : Int))).set_ 1 (.bool false)).set_ 2 (.slice A3 k c3))
      have Hw : Hid (Below w.heap.size w (((wr.setCell ⟨w.heap.size, 0, none⟩ (.int .i64 (m : Int))).setCell ⟨w.heap.size, 1, none⟩ (.bool false)).setCell ⟨w.heap.size, 2, none⟩ (.slice A3 k c3))) := Lib.hid (((Hbe.out.setCell (p := ⟨w.heap.size, 0, none⟩) (Nat.le_refl _) _).setCell (p := ⟨w.heap.size, 1, none⟩) (Nat.le_refl _) _).setCell (p := ⟨w.heap.size, 2, none⟩) (Nat.le_refl _) _)
      have hne : (Value.slice A3 k c3).ownBlock ≠ some w.heap.size := fun e => by have := (World.ownsRow.lt ho _ e).1; omega
      have Hof := Lib.hid (own_oth (j := 2) (u := .slice A3 k c3) (own_oth (j := 1) (u := .bool false) (own_oth (j := 0) (u := .int .i64 (m : Int)) ho hne) hne) hne)
      clear hne ho Ho
      go_wp2_with fail
      exact ret_lst (g := w.heap.size) (x0 := .int .i64 (m : Int)) (x1 := .bool false) (x2 := .slice A3 k c3) rfl (by rfl) (by simpa using HBx.out) rfl ⟨A3, c3, rfl, Hof.out, Hw.out⟩
def DPost (X : Int × List Uc × List Rw) (w : World) (e : Ending) (w' : World) : Prop :=
  ∃ A1 c1 A2 c2, e = .returned (.tuple #[.slice A1 X.2.1.length c1, .agg #[.int .i64 (X.2.1.length : Int), .bool false, .slice A2 X.2.2.length c2], .int .i64 X.1]) ∧ LIn ucL 5 w' w'.heap.size A1 X.2.1.length c1 X.2.1 ∧ LIn rc 2 w' w'.heap.size A2 X.2.2.length c2 X.2.2 ∧ Below w.heap.size w w'
set_option maxHeartbeats 4000000 in
set_option maxRecDepth 100000 in
theorem dplay_any (A : Option Addr) (n c B : Nat) (l : List Uc) (w : World) (hl : LIn ucL 5 w B A n c l) (hB : B ≤ w.heap.size) (hn : n ≤ 9223372036854775807) (hok : ∀ p ∈ l, UcOk p) :
    Calls Try.prog 13 #[.slice A n c] w (DPost (playL l) w) := by
  obtain ⟨W, hW⟩ : ∃ W, w.alloc (.cells #[.int .i64 0, .bool false, .slice none 0 0] 25) = W := ⟨_, rfl⟩
  have hWB := Blk.new w 25 #[.int .i64 0, .bool false, .slice none 0 0]
  have hWb : Below w.heap.size w W := by rw [← hW]; exact (Below.refl _ _).alloc (Nat.le_refl _) _
  rw [hW] at hWB
  have hWs : W.heap.size = w.heap.size + 1 := by rw [← hW]; simp
  have HC := Lib.hid (played_any A n c B l W (hl.below (hWb.mono hB)) (by omega) hn hok)
  have HWB := Lib.hid hWB
  have HWb := Lib.hid hWb
  have Hok := Lib.hid (playL_ok l)
  have Hlen := Lib.hid (playL_len l)
  have Hcode := Lib.hid (playL_code l)
  clear hl hok hWB hWb
  unfold PdPost at HC
  rw [hWs] at HC
  generalize playL l = X at *
  obtain ⟨xe, xu, xd⟩ := X
  simp only at Hok Hlen Hcode HC
  go_enter Try.func13, Try.ntmps13
  go_wp2_with fail
  refine HC.out.mono ?_
  rintro e w1 (⟨rfl, vu, vd, rfl, hx, hb1⟩ | ⟨he, rfl, hb1⟩)
  · have hbl1 : Blk w1 w.heap.size 25 #[.int .i64 0, .bool false, .slice none 0 0] := (hb1.block _ (Nat.lt_succ_self _)).trans HWB.out
    obtain ⟨Wd, hWd⟩ : ∃ Wd, w1.drew = Wd := ⟨_, rfl⟩
    have hbd : Below w1.heap.size w1 Wd := by rw [← hWd]; exact below_drewN (Below.refl _ _) 1
    have hxd := hx.below hbd
    obtain ⟨Au, cu, rfl, hAu⟩ := LIn.own ucL_len hxd.ru
    have hbld := hbl1.below hbd hbl1.lt
    have Hbd := Lib.hid (HWb.out.trans ((hb1.trans (hbd.mono (by have := hb1.size; omega))).mono (show w.heap.size ≤ w.heap.size + 1 by omega)))
    have HL := Lib.hid (listing_any (w.heap.size + 1) xu xd _ vd Wd hxd Hok.out.2 (by have := Hlen.out; omega))
    have hS0 : Wd.cell? ⟨w.heap.size + 1, 0, none⟩ = some (.slice Au xu.length cu) := hxd.box.cell 0
    have Hlt := Lib.hid hxd.box.lt
    have Hru := Lib.hid (show Wd.ownsRow (w.heap.size + 2) 44 5 (.slice Au xu.length cu) xu.length (pcK ucL xu) from hxd.ru)
    have Hbld := Lib.hid hbld
    clear hx hb1 hbl1 hbd hxd hAu hbld HC Hcode
    unfold LsPost at HL
    generalize hnu : xu.length = nu at *
    generalize hnd : xd.length = nd at *
    go_wp2_with fail
    refine region_S (fun w' => w'.cell? ⟨w.heap.size + 1, 0, none⟩ = some (.slice Au nu cu)) [7, 8] (by kernel_rfl) ?_
    rw [hWd]
    refine anyS_take 0 (v := .pointer (some ⟨w.heap.size + 1, 0, none⟩)) rfl (by kernel_rfl) (by kernel_rfl) (by kernel_rfl) (by kernel_rfl) (fun _ _ _ h => h) (.inl ⟨by kernel_rfl, fun w' hS' => by kernel_rfl⟩) hS0 ?_
    refine anyS_take 1 (v := .pointer (some ⟨w.heap.size + 1, 0, none⟩)) rfl (by kernel_rfl) (by kernel_rfl) (by kernel_rfl) (by kernel_rfl) (fun _ _ _ h => h) (.inl ⟨by kernel_rfl, fun w' hS' => by go_simp⟩) hS0 ?_
    refine anyS_take 2 (v := .pointer (some ⟨w.heap.size + 1, 0, none⟩)) rfl (by kernel_rfl) (by kernel_rfl) (by kernel_rfl) (by kernel_rfl) (fun _ _ _ h => h) (.inl ⟨by kernel_rfl, fun w' hS' => by go_simp⟩) hS0 ?_
    refine anyS_take 3 (v := .slice Au nu cu) rfl (by kernel_rfl) (by kernel_rfl) (by kernel_rfl) (by kernel_rfl) (fun _ _ _ h => h) (.inl ⟨by kernel_rfl, fun w' hS' => by go_simp⟩) hS0 ?_
    refine anyS_take 4 (v := .pointer (some ⟨w.heap.size + 1, 0, none⟩)) rfl (by kernel_rfl) (by kernel_rfl) (by kernel_rfl) (by kernel_rfl) (fun _ _ _ h => h) (.inl ⟨by kernel_rfl, fun w' hS' => by kernel_rfl⟩) hS0 ?_
    refine anyS_one 5 rfl (by kernel_rfl) rfl ?_
    intro K5 hK5
    go_simp
    refine HL.out.mono ?_
    rintro e w2 ⟨A2, c2, rfl, ho2, hb2⟩
    have hS2 : w2.cell? ⟨w.heap.size + 1, 0, none⟩ = some (.slice Au nu cu) := (hb2.cell (p := ⟨w.heap.size + 1, 0, none⟩) Hlt.out).trans hS0
    have hbl2 := Hbld.out.below hb2 Hbld.out.lt
    have b0 := hbl2.cell 0
    have b1 := hbl2.cell 1
    have b2 := hbl2.cell 2
    simp at b0 b1 b2
    have f0 := hbl2.frozen 0
    have f1 := hbl2.frozen 1
    have f2 := hbl2.frozen 2
    have HBx := Lib.hid (((hbl2.set_ 0 (.int .i64 (nu : Int))).set_ 1 (.bool false)).set_ 2 (.slice A2 nd c2))
    have hru2 := own_below Hru.out hb2
    have hne1 : (Value.slice Au nu cu).ownBlock ≠ some w.heap.size := fun e => by have := (World.ownsRow.lt hru2 _ e).1; omega
    have hne2 : (Value.slice A2 nd c2).ownBlock ≠ some w.heap.size := fun e => by have h1 := (World.ownsRow.lt ho2 _ e).1; have h2 := Hbld.out.lt; omega
    have Hu3 := Lib.hid (own_oth (j := 2) (u := .slice A2 nd c2) (own_oth (j := 1) (u := .bool false) (own_oth (j := 0) (u := .int .i64 (nu : Int)) hru2 hne1) hne1) hne1)
    have Hd3 := Lib.hid (own_oth (j := 2) (u := .slice A2 nd c2) (own_oth (j := 1) (u := .bool false) (own_oth (j := 0) (u := .int .i64 (nu : Int)) ho2 hne2) hne2) hne2)
    have Hw := Lib.hid ((((Hbd.out.trans (hb2.mono Hbd.out.size)).setCell (p := ⟨w.heap.size, 0, none⟩) (Nat.le_refl _) (.int .i64 (nu : Int))).setCell (p := ⟨w.heap.size, 1, none⟩) (Nat.le_refl _) (.bool false)).setCell (p := ⟨w.heap.size, 2, none⟩) (Nat.le_refl _) (.slice A2 nd c2))
    clear hbl2 hru2 hne1 hne2 ho2 hb2
    refine hK5 _ _ ⟨fun _ => hS2, ?_⟩
    refine anyS_one 6 rfl (by kernel_rfl) rfl ?_
    intro K6 hK6
    go_simp
    refine hK6 _ _ ⟨fun _ => hS2, ?_⟩
    refine anyS_one 7 rfl (by kernel_rfl) rfl ?_
    intro K7 hK7
    go_simp
    refine hK7 _ _ ⟨fun h => absurd (by simp) h, ?_⟩
    refine anyS_one 8 rfl (by kernel_rfl) rfl ?_
    intro K8 hK8
    go_simp
    refine hK8 _ _ ⟨fun h => absurd (by simp) h, ?_⟩
    refine anyS_done (by kernel_rfl) ?_
    clear hK5 hK6 hK7 hK8 hS0 hS2
    go_wp2_with fail
    refine ret_lst3 (g := w.heap.size) (b0 := .slice Au nu cu) (b2 := .int .i64 0) (x0 := .int .i64 (nu : Int)) (x1 := .bool false) (x2 := .slice A2 nd c2) rfl (by rfl) (by rfl) (by rfl) (by simpa using HBx.out) rfl ?_
    unfold DPost
    simp only
    rw [hnu, hnd]
    exact ⟨Au, cu, A2, c2, rfl, own_lin ucL_len (show World.ownsRow _ _ _ _ (.slice Au nu cu) nu (pcK ucL xu) from Hu3.out) hnu, own_lin rc_len (show World.ownsRow _ _ _ _ (.slice A2 nd c2) nd (pcK rc xd) from Hd3.out) hnd, Hw.out⟩
  · have hXX : xu = [] ∧ xd = [] := by
      rcases Hcode.out with h | ⟨_, h⟩
      · exact absurd h he
      · injection h with h1 h2; exact ⟨h1, h2⟩
    obtain ⟨rfl, rfl⟩ := hXX
    have hbl1 : Blk w1 w.heap.size 25 #[.int .i64 0, .bool false, .slice none 0 0] := (hb1.block _ (Nat.lt_succ_self _)).trans HWB.out
    have hxe : (xe != 0) = true := by simpa using he
    have b0 := hbl1.cell 0
    have b1 := hbl1.cell 1
    have b2 := hbl1.cell 2
    simp at b0 b1 b2
    have f0 := hbl1.frozen 0
    have f1 := hbl1.frozen 1
    have f2 := hbl1.frozen 2
    have HBx := Lib.hid (((hbl1.set_ 0 (.int .i64 0)).set_ 1 (.bool false)).set_ 2 (.slice none 0 0))
    have Hw := Lib.hid ((((HWb.out.trans (hb1.mono (show w.heap.size ≤ w.heap.size + 1 by omega))).setCell (p := ⟨w.heap.size, 0, none⟩) (Nat.le_refl _) (.int .i64 0)).setCell (p := ⟨w.heap.size, 1, none⟩) (Nat.le_refl _) (.bool false)).setCell (p := ⟨w.heap.size, 2, none⟩) (Nat.le_refl _) (.slice none 0 0))
    clear hbl1 hb1 HC Hcode
    go_wp2_with fail
    exact ret_lst3 (g := w.heap.size) (b0 := .slice none 0 0) (b2 := .int .i64 xe) (x0 := .int .i64 0) (x1 := .bool false) (x2 := .slice none 0 0) rfl (by rfl) (by rfl) (by rfl) (by simpa using HBx.out) rfl ⟨none, 0, none, 0, rfl, LIn.empty, LIn.empty, Hw.out⟩
end Go.Proofs.Ytmlgaedhfannmaa
