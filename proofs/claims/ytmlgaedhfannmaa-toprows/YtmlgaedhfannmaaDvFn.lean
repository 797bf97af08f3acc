/- Device lists: isBody, isValid, copied, used, find. -/
import Derived.Test.YtmlgaedhfannmaaDvMem
import Derived.Test.YtmlgaedhfannmaaRwCopy
import Derived.Test.YtmlgaedhfannmaaBunD
namespace Go.Proofs.Ytmlgaedhfannmaa
set_option linter.unusedVariables false
set_option linter.unusedSimpArgs false
open Go.RowKit
theorem isBody_any (s : List UInt8) (w : World) (hs : s.length ≤ 9223372036854775807) :
    Calls Try.prog 71 #[str s] w fun e w' => e = .returned (.bool (bodyOk s)) ∧ w' = w := by
  have hb : bodyOk s = (!s.isEmpty && decide (s.length ≤ 20)) := rfl
  rw [hb]
  cases h0 : s.isEmpty with
  | true =>
    go_enter Try.func71, Try.ntmps71
    go_wp2
    go_ret
    exact ⟨rfl, rfl⟩
  | false =>
    by_cases h1 : s.length ≤ 20
    · have h1i : (s.length : Int) ≤ 20 := by omega
      have hd := Lib.hid (decide_eq_true h1)
      clear h1
      go_enter Try.func71, Try.ntmps71
      go_wp2
      go_ret
      exact ⟨ret_bool (by rw [hd.out] <;> rfl), rfl⟩
    · have h1i : ¬ (s.length : Int) ≤ 20 := by omega
      have hd := Lib.hid (decide_eq_false h1)
      clear h1
      go_enter Try.func71, Try.ntmps71
      go_wp2
      go_ret
      exact ⟨ret_bool (by rw [hd.out] <;> rfl), rfl⟩
set_option maxHeartbeats 1000000 in
theorem isValid_any (c : Uc) (w : World) (hc : UcOk c) :
    Calls Try.prog 49 #[.agg #[.int .i64 c.st, .int .i64 c.pv, str c.key, str c.val, .bool c.gone]] w fun e w' => e = .returned (.bool (okU c)) ∧ Below w.heap.size w w' := by
  obtain ⟨a, b, k, v, g⟩ := c
  obtain ⟨hk, hv⟩ := hc
  simp only at hk hv ⊢
  have Hb := Lib.hid ((Below.refl _ w).alloc (Nat.le_refl _) (.cells #[.int .i64 a, .int .i64 b, str k, str v, .bool g] 44))
  have HL := Lib.hid (fun W => local_any k W)
  have HB := Lib.hid (fun W => isBody_any v W hv)
  have HE := Lib.hid (show okU ⟨a, b, k, v, g⟩ = (loc k && (g || bodyOk v)) from rfl)
  generalize loc k = r at *
  generalize bodyOk v = s at *
  clear hk hv
  cases r with
  | false =>
    clear HB
    go_enter Try.func49, Try.ntmps49
    go_wp2_with fail
    refine (HL.out _).mono ?_
    rintro e w1 ⟨rfl, rfl⟩
    go_wp2_with fail
    go_ret
    exact ⟨ret_bool (by rw [HE.out]; rfl), Hb.out⟩
  | true =>
    cases g with
    | true =>
      clear HB
      go_enter Try.func49, Try.ntmps49
      go_wp2_with fail
      refine (HL.out _).mono ?_
      rintro e w1 ⟨rfl, rfl⟩
      go_wp2_with fail
      go_ret
      exact ⟨ret_bool (by rw [HE.out]; rfl), Hb.out⟩
    | false =>
      go_enter Try.func49, Try.ntmps49
      go_wp2_with fail
      refine (HL.out _).mono ?_
      rintro e w1 ⟨rfl, rfl⟩
      go_wp2_with fail
      refine (HB.out _).mono ?_
      rintro e w1 ⟨rfl, rfl⟩
      go_wp2_with fail
      go_ret
      exact ⟨ret_bool (by rw [HE.out]; rfl), Hb.out⟩
/-- The end of a function whose one result is a device in memory. -/
theorem ret_dev {fn : Func} {R : Ending → World → Prop} {a : Act} {W : World} {g : Nat} {s1 : Tmp} {x0 x1 : Value}
    (hf : fn.results = #[.cell s1 42]) (h1 : a.tmps.getD s1 undef = .pointer (some ⟨g, 0, none⟩))
    (hb : Blk W g 42 #[x0, x1]) (hd : a.defers = []) (hR : R (.returned (.agg #[x0, x1])) W) : bodyPost Try.prog fn R .ret a W := by
  refine bodyPost_ret ?_ hd hR
  have c0 := hb.cell 0
  have c1 := hb.cell 1
  simp only [Array.getD_eq_getD_getElem?] at h1
  simp [results, hf, h1, go_sem, c0, c1]
set_option maxHeartbeats 2000000 in
set_option maxRecDepth 100000 in
theorem copiedD_any (k v : List UInt8) (w : World) (hk : k.length ≤ 20) (hv : v.length ≤ 20) :
    Calls Try.prog 52 #[.agg #[str k, str v]] w fun e w' => e = .returned (.agg #[str k, str v]) ∧ Below w.heap.size w w' := by
  obtain ⟨W, hW⟩ : ∃ W, (w.alloc (.cells #[str k, str v] 42)).alloc (.cells #[.string ⟨#[]⟩, .string ⟨#[]⟩] 42) = W := ⟨_, rfl⟩
  have hs1 : (w.alloc (.cells #[str k, str v] 42)).heap.size = w.heap.size + 1 := by simp
  have hB1 : Blk W w.heap.size 42 #[str k, str v] := by rw [← hW]; exact (Blk.new w _ _).alloc _
  have hB2 := Blk.new (w.alloc (.cells #[str k, str v] 42)) 42 #[.string ⟨#[]⟩, .string ⟨#[]⟩]
  rw [hW, hs1] at hB2
  have hWb : Below w.heap.size w W := by rw [← hW]; exact ((Below.refl _ _).alloc (Nat.le_refl _) _).alloc (by simp) _
  obtain ⟨Wd, hWd⟩ : ∃ Wd, W.drew = Wd := ⟨_, rfl⟩
  have hdb : Below W.heap.size W Wd := by rw [← hWd]; exact below_drewN (Below.refl _ _) 1
  have hd1 := hB1.below hdb hB1.lt
  have hd2 := hB2.below hdb hB2.lt
  have hWdb := hWb.trans (hdb.mono hWb.size)
  have hS0 : Wd.cell? ⟨w.heap.size, 0, none⟩ = some (str k) ∧ Wd.cell? ⟨w.heap.size, 1, none⟩ = some (str v) := ⟨hd1.cell 0, hd1.cell 1⟩
  have HS := Lib.hid (show ∀ w2, Below Wd.heap.size Wd w2 → w2.cell? ⟨w.heap.size, 0, none⟩ = some (str k) ∧ w2.cell? ⟨w.heap.size, 1, none⟩ = some (str v) from fun w2 hb => ⟨(hd1.below hb hd1.lt).cell 0, (hd1.below hb hd1.lt).cell 1⟩)
  have H2 := Lib.hid (show ∀ w2, Below Wd.heap.size Wd w2 → Blk w2 (w.heap.size + 1) 42 #[.string ⟨#[]⟩, .string ⟨#[]⟩] from fun w2 hb => hd2.below hb hd2.lt)
  have HWdb := Lib.hid hWdb
  clear hB1 hB2 hWb hdb hd1 hd2 hWdb
  go_enter Try.func52, Try.ntmps52
  go_wp2_with fail
  refine region_S (fun w' => w'.cell? ⟨w.heap.size, 0, none⟩ = some (str k) ∧ w'.cell? ⟨w.heap.size, 1, none⟩ = some (str v)) [7] (by kernel_rfl) ?_
  try rw [hW]
  rw [hWd]
  refine anyS_take 0 (v := .pointer (some ⟨w.heap.size, 0, none⟩)) rfl (by kernel_rfl) (by kernel_rfl) (by kernel_rfl) (by kernel_rfl) (fun _ _ _ h => h) (.inl ⟨by kernel_rfl, fun w' hS' => by kernel_rfl⟩) hS0 ?_
  refine anyS_take 1 (v := str k) rfl (by kernel_rfl) (by kernel_rfl) (by kernel_rfl) (by kernel_rfl) (fun _ _ _ h => h) (.inl ⟨by kernel_rfl, fun w' hS' => by obtain ⟨s1, s2⟩ := hS'; go_simp⟩) hS0 ?_
  refine anyS_take 3 (v := .pointer (some ⟨w.heap.size, 1, none⟩)) rfl (by kernel_rfl) (by kernel_rfl) (by kernel_rfl) (by kernel_rfl) (fun _ _ _ h => h) (.inl ⟨by kernel_rfl, fun w' hS' => by kernel_rfl⟩) hS0 ?_
  refine anyS_take 4 (v := str v) rfl (by kernel_rfl) (by kernel_rfl) (by kernel_rfl) (by kernel_rfl) (fun _ _ _ h => h) (.inl ⟨by kernel_rfl, fun w' hS' => by obtain ⟨s1, s2⟩ := hS'; go_simp⟩) hS0 ?_
  refine anyS_one 2 rfl (by kernel_rfl) rfl ?_
  intro K2 hK2
  go_simp
  refine (rwClone_any k Wd hk).mono ?_
  rintro e w1 ⟨rfl, hb1⟩
  refine hK2 _ _ ⟨fun _ => HS.out w1 hb1, ?_⟩
  refine anyS_one 5 rfl (by kernel_rfl) rfl ?_
  intro K5 hK5
  go_simp
  refine (rwClone_any v w1 hv).mono ?_
  rintro e w2 ⟨rfl, hb2⟩
  have hbb := hb1.trans (hb2.mono hb1.size)
  refine hK5 _ _ ⟨fun _ => HS.out w2 hbb, ?_⟩
  refine anyS_one 6 rfl (by kernel_rfl) rfl ?_
  intro K6 hK6
  go_simp
  refine hK6 _ _ ⟨fun _ => HS.out w2 hbb, ?_⟩
  refine anyS_one 7 rfl (by kernel_rfl) rfl ?_
  intro K7 hK7
  have hx := H2.out w2 hbb
  have c0 := hx.cell 0
  have c1 := hx.cell 1
  have f0 := hx.frozen 0
  have f1 := hx.frozen 1
  simp at c0 c1
  have Hx := Lib.hid ((hx.set_ 0 (str k)).set_ 1 (str v))
  have Hb := Lib.hid (((HWdb.out.trans (hbb.mono HWdb.out.size)).setCell (p := ⟨w.heap.size + 1, 0, none⟩) (by show w.heap.size ≤ w.heap.size + 1; omega) (str k)).setCell (p := ⟨w.heap.size + 1, 1, none⟩) (by show w.heap.size ≤ w.heap.size + 1; omega) (str v))
  clear hx hb1 hb2 hbb
  go_simp
  refine hK7 _ _ ⟨fun h => absurd (List.mem_singleton.2 rfl) h, ?_⟩
  refine anyS_done (by kernel_rfl) ?_
  clear hK2 hK5 hK6 hK7
  go_wp2_with fail
  exact ret_dev rfl (by rfl) (by simpa using Hx.out) rfl ⟨rfl, Hb.out⟩
set_option maxHeartbeats 2000000 in
theorem used_any (c : Uc) (w : World) (hc : okU c = true) :
    Calls Try.prog 51 #[.agg #[.int .i64 c.st, .int .i64 c.pv, str c.key, str c.val, .bool c.gone]] w fun e w' => e = .returned (.agg #[str c.key, str (vl c)]) ∧ Below w.heap.size w w' := by
  have hk := okU_len hc
  have hv := vl_len hc
  obtain ⟨a, b, k, v, g⟩ := c
  simp only at hk hv ⊢
  obtain ⟨W, hW⟩ : ∃ W, (w.alloc (.cells #[.int .i64 a, .int .i64 b, str k, str v, .bool g] 44)).alloc (.cells #[.string ⟨#[]⟩, .string ⟨#[]⟩] 42) = W := ⟨_, rfl⟩
  have hs1 : (w.alloc (.cells #[.int .i64 a, .int .i64 b, str k, str v, .bool g] 44)).heap.size = w.heap.size + 1 := by simp
  have hB1 : Blk W w.heap.size 44 #[.int .i64 a, .int .i64 b, str k, str v, .bool g] := by rw [← hW]; exact (Blk.new w _ _).alloc _
  have hB2 := Blk.new (w.alloc (.cells #[.int .i64 a, .int .i64 b, str k, str v, .bool g] 44)) 42 #[.string ⟨#[]⟩, .string ⟨#[]⟩]
  rw [hW, hs1] at hB2
  have hWb : Below w.heap.size w W := by rw [← hW]; exact ((Below.refl _ _).alloc (Nat.le_refl _) _).alloc (by simp) _
  have x2 : W.cell? ⟨w.heap.size, 2, none⟩ = some (str k) := hB1.cell 2
  have x3 : W.cell? ⟨w.heap.size, 3, none⟩ = some (str v) := hB1.cell 3
  have x4 : W.cell? ⟨w.heap.size, 4, none⟩ = some (.bool g) := hB1.cell 4
  have f3 := hB1.frozen 3
  have hl2 := hB2.lt
  cases g with
  | true =>
    rw [show str (vl (⟨a, b, k, v, true⟩ : Uc)) = .string ⟨#[]⟩ from rfl]
    obtain ⟨V, hV⟩ : ∃ V, W.setCell ⟨w.heap.size, 3, none⟩ (.string ⟨#[]⟩) = V := ⟨_, rfl⟩
    have hV1 : Blk V w.heap.size 44 #[.int .i64 a, .int .i64 b, str k, .string ⟨#[]⟩, .bool true] := by rw [← hV]; simpa using hB1.set_ 3 (.string ⟨#[]⟩)
    have hV2 : Blk V (w.heap.size + 1) 42 #[.string ⟨#[]⟩, .string ⟨#[]⟩] := by rw [← hV]; exact hB2.far (by show w.heap.size + 1 ≠ w.heap.size; omega) _
    have hVb : Below w.heap.size w V := by rw [← hV]; exact hWb.setCell (Nat.le_refl _) _
    have y2 : V.cell? ⟨w.heap.size, 2, none⟩ = some (str k) := hV1.cell 2
    have y3 : V.cell? ⟨w.heap.size, 3, none⟩ = some (.string ⟨#[]⟩) := hV1.cell 3
    have HC : Hid (Calls Try.prog 52 #[.agg #[str k, .string ⟨#[]⟩]] V fun e w' => e = .returned (.agg #[str k, .string ⟨#[]⟩]) ∧ Below V.heap.size V w') := Lib.hid (copiedD_any k [] V hk (by simp))
    have HV2 := Lib.hid hV2
    have HVb := Lib.hid hVb
    clear hV1 hV2 hVb hB1 hB2 hWb
    go_enter Try.func51, Try.ntmps51
    go_wp2_with fail
    try rw [hW]
    go_wp2_with fail
    try rw [hV]
    go_wp2_with fail
    refine HC.out.mono ?_
    rintro e w1 ⟨rfl, hb1⟩
    have hx := HV2.out.below hb1 HV2.out.lt
    have c0 := hx.cell 0
    have c1 := hx.cell 1
    have f0 := hx.frozen 0
    have f1 := hx.frozen 1
    simp at c0 c1
    have Hx := Lib.hid ((hx.set_ 0 (str k)).set_ 1 (.string ⟨#[]⟩))
    have Hb := Lib.hid (((HVb.out.trans (hb1.mono HVb.out.size)).setCell (p := ⟨w.heap.size + 1, 0, none⟩) (by show w.heap.size ≤ w.heap.size + 1; omega) (str k)).setCell (p := ⟨w.heap.size + 1, 1, none⟩) (by show w.heap.size ≤ w.heap.size + 1; omega) (.string ⟨#[]⟩))
    clear hx hb1
    go_wp2_with fail
    exact ret_dev rfl (by rfl) (by simpa using Hx.out) rfl ⟨rfl, Hb.out⟩
  | false =>
    rw [show str (vl (⟨a, b, k, v, false⟩ : Uc)) = str v from rfl]
    have HC := Lib.hid (copiedD_any k v W hk hv)
    have HV2 := Lib.hid hB2
    have HVb := Lib.hid hWb
    clear hB1 hB2 hWb
    go_enter Try.func51, Try.ntmps51
    go_wp2_with fail
    try rw [hW]
    go_wp2_with fail
    refine HC.out.mono ?_
    rintro e w1 ⟨rfl, hb1⟩
    have hx := HV2.out.below hb1 HV2.out.lt
    have c0 := hx.cell 0
    have c1 := hx.cell 1
    have f0 := hx.frozen 0
    have f1 := hx.frozen 1
    simp at c0 c1
    have Hx := Lib.hid ((hx.set_ 0 (str k)).set_ 1 (str v))
    have Hb := Lib.hid (((HVb.out.trans (hb1.mono HVb.out.size)).setCell (p := ⟨w.heap.size + 1, 0, none⟩) (by show w.heap.size ≤ w.heap.size + 1; omega) (str k)).setCell (p := ⟨w.heap.size + 1, 1, none⟩) (by show w.heap.size ≤ w.heap.size + 1; omega) (str v))
    clear hx hb1
    go_wp2_with fail
    exact ret_dev rfl (by rfl) (by simpa using Hx.out) rfl ⟨rfl, Hb.out⟩
/-- The closure of find. -/
theorem geD_any (r : Rw) (k : List UInt8) (g : Nat) (w : World) (c0 : w.cell? ⟨g, 0, none⟩ = some (str k)) (hg : g < w.heap.size) :
    Calls Try.prog 101 #[.agg #[str r.key, str r.val], .pointer (some ⟨g, 0, none⟩)] w fun e w' => e = .returned (.bool (!Op.bytesLess r.key k)) ∧ Below w.heap.size w w' := by
  have Hb := Lib.hid ((Below.refl _ w).alloc (Nat.le_refl _) (.cells #[str r.key, str r.val] 42))
  go_enter Try.func101, Try.ntmps101
  go_wp2_with fail
  go_ret
  exact ⟨rfl, Hb.out⟩
def IfD (w : World) (l : List Rw) (key : List UInt8) (n : Nat) (gk : Nat) (vi : Value) (wr : World) : Prop :=
  ∃ k : Nat, vi = .int .i64 (k : Int) ∧ k ≤ n ∧ gk = n - k ∧ plc key l = k + plc key (l.drop k) ∧ Below w.heap.size w wr
def idxD (key : List UInt8) (l : List Rw) : Int := if plc key l < l.length then (plc key l : Int) else -1
set_option maxHeartbeats 1000000 in
theorem indexD_any (A : Option Addr) (n c B : Nat) (l : List Rw) (key : List UInt8) (g : Nat) (w : World) (hl : LIn rc 2 w B A n c l) (hB : B ≤ w.heap.size) (hn : n ≤ 9223372036854775807)
    (c0 : w.cell? ⟨g, 0, none⟩ = some (str key)) (hg : g < w.heap.size) :
    Calls Try.prog 100 #[.slice A n c, .func (.func 101) #[] #[.pointer (some ⟨g, 0, none⟩)]] w fun e w' => e = .returned (.int .i64 (idxD key l)) ∧ Below w.heap.size w w' := by
  have Hln := Lib.hid hl.1
  have Hl := Lib.hid hl
  clear hl
  go_enter Try.func100, Try.ntmps100
  go_wp2
  go_loopg [8] n (IfD w l key n)
  case atStart => exact ⟨0, rfl, Nat.zero_le _, by omega, by simp, Below.refl _ _⟩
  case round =>
    obtain ⟨k, rfl, hk, hgk, hall, hbe⟩ := hrel
    have Hgk := Lib.hid hgk
    have Hall := Lib.hid hall
    have Hbe := Lib.hid hbe
    have hszw := hbe.size
    have d0 := (hbe.cell (p := ⟨g, 0, none⟩) hg).trans c0
    clear hgk hall hbe
    by_cases hkn : k < n
    · have hkl : k < l.length := by rw [Hln.out]; exact hkn
      obtain ⟨b, off, hA, hbB, e0, e1⟩ := dv_at (Hl.out.below (Hbe.out.mono hB)) hkl
      subst hA
      have H1 := Lib.hid (geD_any l[k] key g wr d0 (by omega))
      have Ht := Lib.hid (show Op.bytesLess l[k].key key = true → plc key l = (k + 1) + plc key (l.drop (k + 1)) from fun h => by
        rw [Hall.out, List.drop_eq_getElem_cons hkl, plc, if_pos h]; omega)
      have Hm := Lib.hid (show Op.bytesLess l[k].key key = false → plc key l = k from fun h => by
        rw [Hall.out, List.drop_eq_getElem_cons hkl, plc, if_neg (by simp [h])]; omega)
      generalize l[k] = q at *
      have hi1 : (k : Int) < (n : Int) := by omega
      cases hb : Op.bytesLess q.key key
      · rw [hb] at H1
        have HG := Lib.hid (show (k : Int) = idxD key l by unfold idxD; rw [Hm.out hb, if_pos hkl])
        clear hb Ht Hm
        go_wp2_with fail
        refine H1.out.mono ?_
        rintro e w1 ⟨rfl, hb1⟩
        have Hb1 := Lib.hid (Hbe.out.trans (hb1.mono hszw))
        clear hb1 H1
        go_wp2
        go_ret
        exact ⟨by rw [HG.out] <;> rfl, Hb1.out⟩
      · rw [hb] at H1
        have HT := Lib.hid (Ht.out hb)
        clear hb Hm Ht
        go_wp2_with fail
        refine H1.out.mono ?_
        rintro e w1 ⟨rfl, hb1⟩
        have Hb1 := Lib.hid (Hbe.out.trans (hb1.mono hszw))
        clear hb1 H1
        go_wp2
        go_roundg (n - (k + 1))
        case measure => have := Hgk.out; omega
        case rel => exact ⟨k + 1, by go_num, by omega, rfl, HT.out, Hb1.out⟩
    · have hkn' : k = l.length := by have := Hln.out; omega
      have HG := Lib.hid (show (-1 : Int) = idxD key l by
        have := Hall.out
        rw [hkn', List.drop_length] at this
        unfold idxD
        rw [if_neg (by have h0 : plc key ([] : List Rw) = 0 := rfl
                       omega)])
      clear hkn'
      go_wp2
      go_ret
      exact ⟨by rw [HG.out] <;> rfl, Hbe.out⟩
/-- Is the device there? -/
def thD (k : List UInt8) (l : List Rw) : Bool := match l[plc k l]? with
  | some r => r.key == k
  | none => false
theorem thD_no {k : List UInt8} {l : List Rw} (h : ¬ plc k l < l.length) : thD k l = false := by unfold thD; rw [List.getElem?_eq_none (by omega)]
theorem thD_at {k : List UInt8} {l : List Rw} (h : plc k l < l.length) : thD k l = (l[plc k l].key == k) := by unfold thD; rw [List.getElem?_eq_getElem h]
set_option maxHeartbeats 2000000 in
set_option maxRecDepth 100000 in
theorem findD_any (B : Nat) (us : List Uc) (ds : List Rw) (vu vd : Value) (k : List UInt8) (w : World) (h : DvS B w us ds vu vd) (hn : ds.length ≤ 1000) :
    Calls Try.prog 72 #[.pointer (some ⟨B, 0, none⟩), str k] w fun e w' => e = .returned (.tuple #[.int .i64 (plc k ds : Int), .bool (thD k ds)]) ∧ Below w.heap.size w w' := by
  obtain ⟨A, c, rfl, hA⟩ := LIn.own rc_len (show w.ownsRow (B + 1) 42 2 vd ds.length (pcK rc ds) from h.rd)
  obtain ⟨W, hW⟩ : ∃ W, w.alloc (.cells #[str k] 9) = W := ⟨_, rfl⟩
  have hWB := Blk.new w 9 #[str k]
  have hWb : Below w.heap.size w W := by rw [← hW]; exact (Below.refl _ _).alloc (Nat.le_refl _) _
  rw [hW] at hWB
  have hx := h.below hWb
  have y1 : W.cell? ⟨B, 1, none⟩ = some (.slice A ds.length c) := hx.box.cell 1
  have x1 : w.cell? ⟨B, 1, none⟩ = some (.slice A ds.length c) := h.box.cell 1
  have hBw : B < w.heap.size := h.box.lt
  have H0 := Lib.hid (indexD_any A ds.length c w.heap.size ds k w.heap.size W (hA.below hWb) hWb.size (by omega) (hWB.cell 0) hWB.lt)
  have HWb := Lib.hid hWb
  have Hx := Lib.hid hx
  have HWB := Lib.hid hWB
  have HA := Lib.hid (hA.below hWb)
  have hB := h.size
  have hpl := plc_le k ds
  clear h hA hWB hWb hx
  by_cases hp : plc k ds < ds.length
  · have HT := Lib.hid (thD_at hp)
    have hi : idxD k ds = (plc k ds : Int) := by unfold idxD; rw [if_pos hp]
    rw [hi] at H0
    obtain ⟨b, off, hAd, hbB, e0, -⟩ := dv_at HA.out hp
    subst hAd
    have He := Lib.hid e0
    clear e0 hi HA
    generalize ds[plc k ds].key = rk at *
    generalize thD k ds = t at *
    generalize plc k ds = P at *
    have hP0 : ¬ ((P : Int) < 0) := by omega
    generalize ds.length = n at *
    have hPi : (P : Int) < (n : Int) := by omega
    go_enter Try.func72, Try.ntmps72
    go_wp2_with fail
    try rw [hW]
    refine H0.out.mono ?_
    rintro e w1 ⟨rfl, hb⟩
    have hb1 := HWb.out.trans (hb.mono HWb.out.size)
    have z0 : w1.cell? ⟨w.heap.size, 0, none⟩ = some (str k) := (HWB.out.below hb HWB.out.lt).cell 0
    have z1 : w1.cell? ⟨B, 1, none⟩ = some (.slice (some ⟨b, off, none⟩) n c) := (hb.cell (p := ⟨B, 1, none⟩) (by have := HWb.out.size; show B < _; omega)).trans y1
    have z2 : w1.cell? ⟨b, off + P * 2, none⟩ = some (str rk) := (hb.cell (p := ⟨b, off + P * 2, none⟩) (by have := HWb.out.size; show b < _; omega)).trans He.out
    have Hb1 := Lib.hid hb1
    clear hb hb1
    go_wp2_with fail
    go_quiet (fail)
    go_wp2_with fail
    go_ret2
    exact ⟨by rw [HT.out] <;> rfl, below_drewN Hb1.out _⟩
  · have HT := Lib.hid (thD_no hp)
    have hi : idxD k ds = -1 := by unfold idxD; rw [if_neg hp]
    have hP : plc k ds = ds.length := by omega
    rw [hi] at H0
    rw [hP, HT.out]
    clear hi hP hp hpl HA HT
    generalize ds.length = n at *
    go_enter Try.func72, Try.ntmps72
    go_wp2_with fail
    try rw [hW]
    refine H0.out.mono ?_
    rintro e w1 ⟨rfl, hb⟩
    have hb1 := HWb.out.trans (hb.mono HWb.out.size)
    have z1 : w1.cell? ⟨B, 1, none⟩ = some (.slice A n c) := (hb.cell (p := ⟨B, 1, none⟩) (by have := HWb.out.size; show B < _; omega)).trans y1
    have Hb1 := Lib.hid hb1
    clear hb hb1
    go_wp2_with fail
    go_ret2
    exact ⟨rfl, Hb1.out⟩
end Go.Proofs.Ytmlgaedhfannmaa
