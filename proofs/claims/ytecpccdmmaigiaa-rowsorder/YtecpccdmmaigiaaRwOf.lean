/- Sorted tables: copiedRows, rowsOf. -/
import Derived.Test.YtecpccdmmaigiaaRwGenW
import Derived.BigQuiet
namespace Go.Proofs.Ytecpccdmmaigiaa
set_option linter.unusedVariables false
set_option linter.unusedSimpArgs false
open Go.RowKit
theorem copR_any (A : Option Addr) (n c B : Nat) (l : List Rw) (w : World) (hl : RIn w B A n c l) (hB : B ≤ w.heap.size) (hn : n ≤ 1048576) :
    Calls Try.prog 27 #[.slice A n c] w fun e w' => ∃ v, e = .returned v ∧ w'.ownsRow w.heap.size 40 2 v n (pcR l) ∧ Below w.heap.size w w' := by
  obtain ⟨i0, hi0, hz0, hzs, hzb⟩ := info_parts info_row
  obtain ⟨v', w', hr, h1, h2, h3⟩ := run_app_all (P := Try.prog) w 22 22 w.heap.size 40 i0 _ 2 32 Try.underlying22 hi0 hz0 hzs hzb rfl (by decide) (.slice none 0 0) 0 [] (World.ownsRow_nil _ _ _ _) B A n c (pcR l) hl.2.2.1 hl.2.2.2 (pcR_one l) (by omega) (by decide) (Nat.le_refl _)
  have HR := Lib.hid hr
  have H1 := Lib.hid h1
  have HB := Lib.hid (below_own (Below.refl w.heap.size w) h2 (World.ownsRow_nil w w.heap.size 40 2) (Nat.le_refl _) (Nat.le_refl _))
  clear hr h1 h2 hl
  go_enter Try.func27, Try.ntmps27
  go_wp2_with (first | (at_builtin; refine rw_app rfl _ _ _ rfl _ _ (by rfl) (by rfl) HR.out ?_) | fail)
  go_ret
  exact ⟨v', rfl, by simpa using H1.out, HB.out⟩
/-- Changes that are few and well made: what Set does of them onto an empty table, or onto one that they made. -/
theorem drawn_good {cs : List Rw} (h : Drawn cs) : goodC cs = true := by
  unfold goodC
  rw [List.all_eq_true]
  intro r hr
  obtain ⟨p, q, hp, hq, rfl⟩ := h r hr
  have h1 : ∀ p : Nat, p < 8 → (!(kt p).isEmpty && decide ((kt p).length ≤ 20)) = true := by decide
  have h2 : ∀ q : Nat, q < 4 → decide ((vt q).length ≤ 20) = true := by decide
  unfold sizedR
  simp only
  rw [h1 p hp, h2 q hq]; rfl
theorem drawn_keys {cs : List Rw} (h : Drawn cs) : ∀ r ∈ cs, r.key ∈ kts := by
  intro r hr
  obtain ⟨p, q, hp, hq, rfl⟩ := h r hr
  have h1 : ∀ p : Nat, p < 8 → kt p ∈ kts := by decide
  exact h1 p hp
theorem drawn_short {cs : List Rw} (h : Drawn cs) : Short cs := by
  intro r hr
  have := sized_short (List.all_eq_true.1 (drawn_good h) r hr)
  exact ⟨by omega, by omega⟩
/-- A table that drawn changes made. -/
structure Tbl (l : List Rw) : Prop where
  srt : srt l
  keys : ∀ r ∈ l, r.key ∈ kts
  good : ∀ r ∈ l, sizedR r = true ∧ r.val ≠ []
theorem Tbl.nil : Tbl [] := ⟨trivial, by simp, by simp⟩
theorem Tbl.len {l : List Rw} (h : Tbl l) : l.length ≤ 8 := srt_len h.srt h.keys
theorem Tbl.fit {l : List Rw} (h : Tbl l) : Fit l := ⟨by have := h.len; omega, h.good, h.srt⟩
theorem Tbl.short {l : List Rw} (h : Tbl l) : Short l := fun r hr => by
  have := h.fit.shortR r hr
  exact ⟨by omega, by omega⟩
theorem Tbl.setsT {l cs : List Rw} (h : Tbl l) (hc : Drawn cs) : Tbl (sets l cs) := by
  refine ⟨srt_sets h.srt, fun r hr => ?_, fun r hr => ?_⟩
  · rcases mem_sets hr with h1 | ⟨h1, _⟩
    · exact h.keys r h1
    · exact drawn_keys hc r h1
  · rcases mem_sets hr with h1 | ⟨h1, h2⟩
    · exact h.good r h1
    · exact ⟨List.all_eq_true.1 (drawn_good hc) r h1, h2⟩
theorem Tbl.setNT {l cs : List Rw} (h : Tbl l) (hc : Drawn cs) (hl : cs.length ≤ 60) : setN l cs = (sets l cs, 0) := by
  have h1 := (h.setsT hc).len
  unfold setN
  rw [if_neg (by rw [h.fit.chk]; simp), if_neg (by rw [drawn_good hc]; simp; omega), if_neg (by omega)]
theorem Drawn.take {cs : List Rw} (h : Drawn cs) (k : Nat) : Drawn (cs.take k) := fun r hr => h r (List.mem_of_mem_take hr)
theorem Drawn.drop {cs : List Rw} (h : Drawn cs) (k : Nat) : Drawn (cs.drop k) := fun r hr => h r (List.mem_of_mem_drop hr)
theorem kv_set : setN [] [(⟨[107], [118]⟩ : Rw)] = ([⟨[107], [118]⟩], 0) := by
  unfold setN
  rw [if_neg (by decide), if_neg (by decide), if_neg (by decide)]
  rfl
set_option maxHeartbeats 2000000 in
set_option maxRecDepth 100000 in
theorem rowsOf_any (A : Option Addr) (n c B : Nat) (cs : List Rw) (w : World) (hl : RIn w B A n c cs) (hB : B ≤ w.heap.size) (hn : n ≤ 60) (hd : Drawn cs) :
    Calls Try.prog 26 #[.slice A n c] w fun e w' => ∃ v, e = .returned (.tuple #[v, .bool true]) ∧ w'.ownsRow w.heap.size 40 2 v (sets [] cs).length (pcR (sets [] cs)) ∧ Below w.heap.size w w' := by
  have hln := hl.1
  have HN := Lib.hid (Tbl.nil.setNT hd (by omega))
  have Hds := Lib.hid (drawn_short hd)
  have H1 := Lib.hid (copR_any A n c B cs w hl hB (by omega))
  clear hl hd
  go_enter Try.func26, Try.ntmps26
  go_wp2_with fail
  refine H1.out.mono ?_
  rintro e w1 ⟨v1, rfl, ho1, hb1⟩
  obtain ⟨A1, c1, rfl, hin1⟩ := RIn.own ho1
  have H2 := Lib.hid (set_any none A1 0 0 n c1 w1.heap.size w1.heap.size [] cs w1 RIn.empty (Nat.le_refl _) (by simp [Short]) (by omega) hin1 (Nat.le_refl _) Hds.out (by omega))
  rw [HN.out] at H2
  have Hb1 := Lib.hid hb1
  clear ho1 hb1 hin1 H1
  go_wp2_with fail
  refine H2.out.mono ?_
  rintro e w2 ⟨v2, rfl, ho2, hb2⟩
  replace ho2 : w2.ownsRow w1.heap.size 40 2 v2 (sets [] cs).length (pcR (sets [] cs)) := ho2
  have Ho2 := Lib.hid (rw_le ho2 Hb1.out.size)
  have Hb2 := Lib.hid (Hb1.out.trans (hb2.mono Hb1.out.size))
  have hw3 := Blk.new w2 40 #[.string ⟨#[107]⟩, .string ⟨#[118]⟩]
  have hbw3 := (Below.refl w2.heap.size w2).alloc (Nat.le_refl _) (.cells #[.string ⟨#[107]⟩, .string ⟨#[118]⟩] 40)
  obtain ⟨w3, hw3e⟩ : ∃ w3, w3 = w2.alloc (.cells #[.string ⟨#[107]⟩, .string ⟨#[118]⟩] 40) := ⟨_, rfl⟩
  rw [← hw3e] at hw3 hbw3
  have hin3 : RIn w3 w3.heap.size (some ⟨w2.heap.size, 0, none⟩) 1 1 [(⟨[107], [118]⟩ : Rw)] := by
    refine ⟨rfl, Nat.le_refl _, (fun h => (by cases h)), rfl, fun _ => ⟨w2.heap.size, 0, rfl, hw3.lt, fun j u hu => ?_⟩⟩
    rw [Nat.zero_add, hw3.cell j]
    simpa [pcR, rc, str] using hu
  have H3 := Lib.hid (set_any none (some ⟨w2.heap.size, 0, none⟩) 0 0 1 1 w3.heap.size w3.heap.size [] [⟨[107], [118]⟩] w3 RIn.empty (Nat.le_refl _) (by simp [Short]) (by omega) hin3 (Nat.le_refl _) (by simp [Short]) (by omega))
  rw [kv_set] at H3
  have HW3 := Lib.hid hw3e
  have Hbw3 := Lib.hid hbw3
  clear ho2 hb2 H2 hw3 hin3 hw3e hbw3
  go_wp2_with fail
  rw [← HW3.out]
  refine H3.out.mono ?_
  rintro e w4 ⟨v4, rfl, ho4, hb4⟩
  replace ho4 : w4.ownsRow w3.heap.size 40 2 v4 1 (pcR [(⟨[107], [118]⟩ : Rw)]) := ho4
  have hb24 := Hbw3.out.trans (hb4.mono Hbw3.out.size)
  have Ho2' := Lib.hid (rowR_below Ho2.out hb24)
  have Hb4 := Lib.hid (Hb2.out.trans (hb24.mono Hb2.out.size))
  obtain ⟨A4, c4, rfl, hin4⟩ := RIn.own ho4
  obtain ⟨b, off, hA, hbB, d0, d1⟩ := hin4.at_ (i := 0) (by simp)
  subst hA
  replace d1 : w4.cell? ⟨b, off + 1, none⟩ = some (str [118]) := by simpa using d1
  have hg118 : ∀ o t x y, eqGuard o t x y (str [118]) (.string ⟨#[118]⟩) = pure () := fun o t x y => eqGuard_str o t x y [118] [118]
  have hn118 : ∀ W, (binOp BinOp.eql 9 (str [118]) (.string ⟨#[118]⟩)).run Try.prog W = .ok (.bool true) W := fun W => by
    have : (binOp BinOp.eql 9 (str [118]) (str [118])).run Try.prog W = .ok (.bool ([118] == ([118] : List UInt8))) W := by simp [str, go_sem]
    exact this
  clear ho4 hb4 hb24 hin4 d0 H3 Ho2
  go_wp2_with fail
  go_quiet (fail)
  go_wp2
  go_ret2
  exact ⟨v2, rfl, rowR_below Ho2'.out (below_drewN (Below.refl _ _) _), below_drewN Hb4.out _⟩
end Go.Proofs.Ytecpccdmmaigiaa
