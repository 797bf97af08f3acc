/- Joined texts: DkWalk, DkRun. -/
import Derived.Test.YtmlgaedhfannmaaBunDA
import Derived.Test.YtmlgaedhfannmaaOwnB
import Derived.StillTailTactics
import Derived.BigQuiet
import Derived.OwnWalk
import Derived.BigRegion
/- The disk: keep, write, fall and move do what the mathematics says. -/
namespace Go.Proofs.Ytmlgaedhfannmaa
set_option linter.unusedVariables false
set_option linter.unusedSimpArgs false
open Go.RowKit

/-- The disk s lies in box g; its bytes are a row of the call's own. -/
def DkBox (w : World) (g base : Nat) (cv : Value) (s : List UInt8 × Nat) : Prop :=
  Blk w g 207 #[cv, .int .i64 (s.2 : Int)] ∧ w.ownsRow base 5 1 cv s.1.length (s.1.map bv) ∧ DsOk s
def DkPost (w : World) (g base : Nat) (cv : Value) (r : Int × (List UInt8 × Nat)) (e : Ending) (w' : World) : Prop :=
  e = .returned (.int .i64 r.1) ∧ ∃ cv', DkBox w' g base cv' r.2 ∧ On2 w w' g cv.ownBlock ∧ (cv'.ownBlock = cv.ownBlock ∨ ∀ k, cv'.ownBlock = some k → w.heap.size ≤ k)
theorem own_block_any (A : Option Addr) (n n' c c' : Nat) : (Value.slice A n c).ownBlock = (Value.slice A n' c').ownBlock := by cases A <;> rfl
theorem DkBox.alloc {w : World} {g base : Nat} {cv : Value} {s : List UInt8 × Nat} (h : DkBox w g base cv s) (o : Obj) : DkBox (w.alloc o) g base cv s := ⟨h.1.alloc o, h.2.1.alloc o, h.2.2⟩
theorem DkBox.grown {w w' : World} {g base : Nat} {cv : Value} {s : List UInt8 × Nat} {row : Option Nat} (h : DkBox w g base cv s) (hg : w.grownBy w' row) (h1 : some g ≠ row) (h2 : cv.ownBlock = none ∨ cv.ownBlock ≠ row) : DkBox w' g base cv s :=
  ⟨h.1.grown hg h1, World.ownsRow.kept h.2.1 hg h2, h.2.2⟩

theorem keep_any (g base : Nat) (cv : Value) (s : List UInt8 × Nat) (n : Int) (w : World) (hb : DkBox w g base cv s) :
    Calls Try.prog 168 #[.pointer (some ⟨g, 0, none⟩), .int .i64 n] w (DkPost w g base cv (keepN s n)) := by
  obtain ⟨hB, hO, hok⟩ := hb
  obtain ⟨A, c, rfl, hA⟩ := own_form hO
  have hcap : s.1.length ≤ c := by
    rcases hO.2 with ⟨hv, hn⟩ | ⟨g', cap, cur, hv, _, _, hnc, _⟩
    · omega
    · injection hv with _ _ hc; omega
  have c0 : w.cell? ⟨g, 0, none⟩ = some (.slice A s.1.length c) := hB.cell 0
  have c1 : w.cell? ⟨g, 1, none⟩ = some (.int .i64 (s.2 : Int)) := hB.cell 1
  have f0 := hB.frozen 0
  have f1 := hB.frozen 1
  have HB := Lib.hid hB
  have HO := Lib.hid hO
  have Hok := Lib.hid hok
  clear hB hO hok hA
  by_cases hneg : n < 0
  · have HR := Lib.hid (keepN_no (s := s) (.inl hneg))
    go_enter Try.func168, Try.ntmps168
    go_wp2
    go_ret
    exact ⟨by rw [HR.out]; rfl, _, by rw [HR.out]; exact ⟨HB.out, HO.out, Hok.out⟩, On2.refl _ _ _, .inl rfl⟩
  · by_cases hbig : (s.1.length : Int) < n
    · have HR := Lib.hid (keepN_no (s := s) (.inr hbig))
      go_enter Try.func168, Try.ntmps168
      go_wp2
      go_ret
      exact ⟨by rw [HR.out]; rfl, _, by rw [HR.out]; exact ⟨HB.out, HO.out, Hok.out⟩, On2.refl _ _ _, .inl rfl⟩
    · obtain ⟨k, rfl⟩ : ∃ k : Nat, n = (k : Int) := ⟨n.toNat, by omega⟩
      have hk : k ≤ s.1.length := by omega
      have HR := Lib.hid (keepN_yes (s := s) hk)
      have HO2 := Lib.hid (own_first HO.out hk)
      have hkc : k ≤ c := by omega
      obtain ⟨i0, hi0, hz0, hz1, hz2⟩ := info_parts info_u8
      go_enter Try.func168, Try.ntmps168
      go_wp2
      go_ret
      have hB2 := (HB.out.set_ 0 (.slice A k c)).set_ 1 (.int .i64 (k : Int))
      have hne : some g ≠ (Value.slice A s.1.length c).ownBlock := fun e => row_box HO.out HB.out (by decide) e.symm
      have hrow : ((w.setCell ⟨g, 0, none⟩ (.slice A k c)).setCell ⟨g, 1, none⟩ (.int .i64 (k : Int))).ownsRow base 5 1 (.slice A k c) k ((s.1.take k).map bv) := by
        have hon := ((On2.refl w g none).set_ (p := ⟨g, 0, none⟩) (.inl rfl) (.slice A k c)).set_ (p := ⟨g, 1, none⟩) (.inl rfl) (.int .i64 (k : Int))
        exact hon.row HO2.out (fun e => hne (e.symm.trans (own_block_any _ _ _ _ _))) (by cases A <;> simp [Value.ownBlock])
      have hok2 : DsOk (s.1.take k, k) := by
        have := keepN_ok (n := (k : Int)) Hok.out
        rwa [HR.out] at this
      refine ⟨by rw [HR.out]; rfl, .slice A k c, ?_, ?_, .inl (own_block_any _ _ _ _ _)⟩
      · rw [HR.out]
        exact ⟨hB2, by simpa [List.length_take, Nat.min_eq_left hk] using hrow, hok2⟩
      · exact ((On2.refl w g _).set_ (p := ⟨g, 0, none⟩) (.inl rfl) (.slice A k c)).set_ (p := ⟨g, 1, none⟩) (.inl rfl) (.int .i64 (k : Int))

set_option maxRecDepth 100000 in
theorem write_any (g base : Nat) (cv : Value) (s : List UInt8 × Nat) (B : Nat) (Ad : Option Addr) (cd : Nat) (d : List UInt8) (w : World) (hb : DkBox w g base cv s) (hbase : base ≤ w.heap.size)
    (hd : Holds w B 1 Ad d.length (d.map bv)) (hcd : Ad = none → cd = 0) (hdl : d.length ≤ 1048576) (m : Mv) (hm : m.kind = 1) (hmd : m.data = d) :
    Calls Try.prog 167 #[.pointer (some ⟨g, 0, none⟩), .slice Ad d.length cd] w (DkPost w g base cv (mvR s m)) := by
  obtain ⟨hB, hO, hok⟩ := hb
  subst hmd
  obtain ⟨A, c, rfl, hA⟩ := own_form hO
  have c0 : w.cell? ⟨g, 0, none⟩ = some (.slice A s.1.length c) := hB.cell 0
  have f0 := hB.frozen 0
  have hs2 := hok.2
  have hw : IntKind.i64.wrap (1200 - (s.1.length : Int)) = 1200 - (s.1.length : Int) := by
    have := hok.2
    simp [IntKind.wrap, IntKind.signed, IntKind.bits]
    omega
  by_cases hfull : 1200 < s.1.length + m.data.length
  · have HR := Lib.hid (mv_write_full hm hfull)
    have ht : 1200 - (s.1.length : Int) < (m.data.length : Int) := by omega
    have HB := Lib.hid hB
    have HO := Lib.hid hO
    have Hok := Lib.hid hok
    clear hB hO hok hA hs2 hfull hd hdl
    go_enter Try.func167, Try.ntmps167
    go_wp2
    go_ret
    exact ⟨by rw [HR.out]; rfl, _, by rw [HR.out]; exact ⟨HB.out, HO.out, Hok.out⟩, On2.refl _ _ _, .inl rfl⟩
  · have HR := Lib.hid (mv_write hm hfull)
    have ht : ¬ (1200 - (s.1.length : Int) < (m.data.length : Int)) := by omega
    have hlen : s.1.length + m.data.length ≤ 1048576 := by omega
    have HB := Lib.hid hB
    have HO := Lib.hid hO
    have Hok := Lib.hid hok
    have Hd := Lib.hid hd
    obtain ⟨i0, hi0, hz0, hz1, hz2⟩ := info_parts info_u8
    have hok2 := Lib.hid (mvR_ok (m := m) hok)
    clear hB hO hok hA hs2 hfull hd hdl
    go_enter Try.func167, Try.ntmps167
    go_wp2_with (at_builtin; refine wpList_append_all w (by rfl) _ _ 56 (by rfl) base 5 i0 _ 1 1 Try.underlying56 hi0 hz0 hz1 hz2 rfl (by decide) _ _ _ (by rfl) HO.out B Ad m.data.length cd (m.data.map bv) (by rfl) hcd Hd.out (bv_one _) hlen (by decide) hbase ?_; intro v1 w1 ho1 hg1 hb1; obtain ⟨A1, c1, rfl, _⟩ := own_form ho1; have k1 := (HB.out.grown hg1 (fun e => row_box HO.out HB.out (by decide) e.symm)).frozen 0; have k2 : w1.cell? ⟨g, 0, none⟩ = some (.slice A s.1.length c) := (HB.out.grown hg1 (fun e => row_box HO.out HB.out (by decide) e.symm)).cell 0)
    go_wp2
    go_ret
    have hB1 := HB.out.grown hg1 (fun e => row_box HO.out HB.out (by decide) e.symm)
    have hB2 := hB1.set_ 0 (.slice A1 (s.1.length + m.data.length) c1)
    have hon1 : On2 w w1 g (Value.slice A s.1.length c).ownBlock := (On2.refl w g _).grown hg1 (.inl rfl)
    have hon2 := hon1.set_ (p := ⟨g, 0, none⟩) (.inl rfl) (.slice A1 (s.1.length + m.data.length) c1)
    have hv1 : (Value.slice A1 (s.1.length + m.data.length) c1).ownBlock ≠ some g := row_box ho1 hB1 (by decide)
    have ho2 : (w1.setCell ⟨g, 0, none⟩ (.slice A1 (s.1.length + m.data.length) c1)).ownsRow base 5 1 (.slice A1 (s.1.length + m.data.length) c1) (s.1.length + m.data.length) (s.1.map bv ++ m.data.map bv) :=
      ((On2.refl w1 g none).set_ (p := ⟨g, 0, none⟩) (.inl rfl) (.slice A1 (s.1.length + m.data.length) c1)).row ho1 hv1 (by cases (Value.slice A1 (s.1.length + m.data.length) c1).ownBlock <;> simp)
    have ho3 := hok2.out
    rw [HR.out] at ho3
    refine ⟨by rw [HR.out]; rfl, (.slice A1 (s.1.length + m.data.length) c1), ?_, hon2, ?_⟩
    · rw [HR.out]
      exact ⟨hB2, by simpa [List.map_append] using ho2, ho3⟩
    · rcases hb1 with hb1 | hb1
      · exact .inl hb1
      · refine .inr fun k hk => ?_
        rw [hb1] at hk; injection hk with hk; omega

set_option maxRecDepth 100000 in
theorem fall_any (g base : Nat) (cv : Value) (s : List UInt8 × Nat) (n : Int) (w : World) (hb : DkBox w g base cv s) (hn : -9223372036854775808 ≤ n ∧ n ≤ 9223372036854775807) (m : Mv) (hm : m.kind = 4) (hmn : m.n = n) :
    Calls Try.prog 169 #[.pointer (some ⟨g, 0, none⟩), .int .i64 n] w (DkPost w g base cv (mvR s m)) := by
  subst hmn
  have HK := Lib.hid hb
  obtain ⟨hB, hO, hok⟩ := hb
  obtain ⟨A, c, rfl, hA⟩ := own_form hO
  have c0 : w.cell? ⟨g, 0, none⟩ = some (.slice A s.1.length c) := hB.cell 0
  have c1 : w.cell? ⟨g, 1, none⟩ = some (.int .i64 (s.2 : Int)) := hB.cell 1
  by_cases hneg : m.n < 0
  · have HR := Lib.hid (mv_fall_bad (s := s) hm hneg)
    clear hB hO hok hA
    go_enter Try.func169, Try.ntmps169
    go_wp2
    go_ret
    exact ⟨by rw [HR.out]; rfl, _, by rw [HR.out]; exact HK.out, On2.refl _ _ _, .inl rfl⟩
  · obtain ⟨k, hk⟩ : ∃ k : Nat, k = s.2 + min m.n.toNat (s.1.length - s.2) := ⟨_, rfl⟩
    have HR := Lib.hid (mv_fall hm (by omega) hok.1 hk)
    have hkl : k ≤ s.1.length := by have := hok.1; omega
    have HQ := Lib.hid (keepN_yes hkl)
    have hw1 : IntKind.i64.wrap ((s.1.length : Int) - (s.2 : Int)) = (s.1.length : Int) - (s.2 : Int) := by
      have := hok.1; have := hok.2
      simp [IntKind.wrap, IntKind.signed, IntKind.bits]
      omega
    have Hw2 := Lib.hid (show ∀ x : Int, x = min m.n ((s.1.length : Int) - (s.2 : Int)) → wrap64 ((s.2 : Int) + x) = (k : Int) from fun x hx => by
      have := hok.1; have := hok.2
      simp [wrap64, IntKind.wrap, IntKind.signed, IntKind.bits]
      omega)
    have HK2 := Lib.hid (show DkBox w.drew g base (.slice A s.1.length c) s from ⟨HK.out.1, HK.out.2.1, HK.out.2.2⟩)
    have HC := Lib.hid (fun W (h : DkBox W g base (.slice A s.1.length c) s) => keep_any g base (.slice A s.1.length c) s (k : Int) W h)
    clear hB hO hok hA hk hkl
    go_enter Try.func169, Try.ntmps169
    go_wp2_with fail
    go_still_tail 18, (by kernel_rfl)
    change wpList _ _ _ _ _ w.drew
    go_wp2_with fail
    all_goals
      first
      | rw [Hw2.out m.n (by omega)]
      | rw [Hw2.out ((s.1.length : Int) - (s.2 : Int)) (by omega)]
      refine (HC.out _ HK2.out).mono ?_
      rintro e w2 ⟨rfl, cv2, h1, h2, h3⟩
      go_wp2
      go_ret
      refine ⟨by rw [HR.out, HQ.out]; rfl, cv2, ?_, ?_, ?_⟩
      · rw [HR.out]; rw [HQ.out] at h1; exact h1
      · exact ⟨h2.os, h2.tape, h2.output, h2.size, h2.block⟩
      · exact h3

/-- A post of a call in a world with one block more. -/
theorem DkPost.alloc {w w' : World} {g base : Nat} {cv : Value} {r : Int × (List UInt8 × Nat)} {e : Ending} {o : Obj} (hg : g < w.heap.size) (hcv : ∀ k, cv.ownBlock = some k → k < w.heap.size) (h : DkPost (w.alloc o) g base cv r e w') : DkPost w g base cv r e w' := by
  obtain ⟨h1, cv', h2, h3, h4⟩ := h
  refine ⟨h1, cv', h2, ((On2.refl w g _).alloc o).trans h3 (.inl rfl), ?_⟩
  rcases h4 with h4 | h4
  · exact .inl h4
  · exact .inr fun k hk => by have := h4 k hk; simp at this; omega

set_option maxRecDepth 100000 in
theorem move_any (g base : Nat) (cv : Value) (s : List UInt8 × Nat) (w : World) (hb : DkBox w g base cv s) (hbase : base ≤ w.heap.size) (m : Mv) (S : Nat → Prop) (hS : ∀ b, S b → b < w.heap.size) (Ad : Option Addr) (cd : Nat)
    (hm : MIn w S m [.int .i64 m.kind, .slice Ad m.data.length cd, .int .i64 m.n]) :
    Calls Try.prog 140 #[.pointer (some ⟨g, 0, none⟩), .agg #[.int .i64 m.kind, .slice Ad m.data.length cd, .int .i64 m.n]] w (DkPost w g base cv (mvR s m)) := by
  obtain ⟨A0, c0, he, h1, h2, h3, h4, h5, h6⟩ := hm
  simp only [List.cons.injEq, Value.slice.injEq, true_and, and_true] at he
  obtain ⟨rfl, rfl⟩ := he
  have HK := Lib.hid (hb.alloc (.cells #[.int .i64 m.kind, .slice Ad m.data.length cd, .int .i64 m.n] 158))
  have Hd := Lib.hid ((h6.toB hS).alloc (Nat.le_refl _) (.cells #[.int .i64 m.kind, .slice Ad m.data.length cd, .int .i64 m.n] 158))
  have hbk := Blk.new w 158 #[.int .i64 m.kind, .slice Ad m.data.length cd, .int .i64 m.n]
  have hgl := hb.1.lt
  have hcl : ∀ k, cv.ownBlock = some k → k < w.heap.size := fun k hk => (World.ownsRow.lt hb.2.1 k hk).2
  have HE := Lib.hid (fun r e w' (h : DkPost (w.alloc (.cells #[.int .i64 m.kind, .slice Ad m.data.length cd, .int .i64 m.n] 158)) g base cv r e w') => DkPost.alloc hgl hcl h)
  have hb1 : base ≤ (w.alloc (.cells #[.int .i64 m.kind, .slice Ad m.data.length cd, .int .i64 m.n] 158)).heap.size := by simp; omega
  have c0 : (w.alloc (.cells #[.int .i64 m.kind, .slice Ad m.data.length cd, .int .i64 m.n] 158)).cell? ⟨w.heap.size, 0, none⟩ = some (.int .i64 m.kind) := hbk.cell 0
  have c1 : (w.alloc (.cells #[.int .i64 m.kind, .slice Ad m.data.length cd, .int .i64 m.n] 158)).cell? ⟨w.heap.size, 1, none⟩ = some (.slice Ad m.data.length cd) := hbk.cell 1
  have c2 : (w.alloc (.cells #[.int .i64 m.kind, .slice Ad m.data.length cd, .int .i64 m.n] 158)).cell? ⟨w.heap.size, 2, none⟩ = some (.int .i64 m.n) := hbk.cell 2
  have hg0 : ∃ A c, cv = .slice A s.1.length c := by obtain ⟨A, c, h, _⟩ := own_form hb.2.1; exact ⟨A, c, h⟩
  obtain ⟨A, c, rfl⟩ := hg0
  have cc : (w.alloc (.cells #[.int .i64 m.kind, .slice Ad m.data.length cd, .int .i64 m.n] 158)).cell? ⟨g, 0, none⟩ = some (.slice A s.1.length c) := HK.out.1.cell 0
  have Hcd := Lib.hid h3
  have Hb1 := Lib.hid hb1
  clear hb hbk hb1 h6 hbase h3 hcl
  generalize hwq : w.alloc (.cells #[.int .i64 m.kind, .slice Ad m.data.length cd, .int .i64 m.n] 158) = wq at *
  by_cases k1 : m.kind = 1
  · have HC := Lib.hid (write_any g base _ s _ Ad cd m.data wq HK.out Hb1.out Hd.out Hcd.out h1 m k1 rfl)
    have K1 := Lib.hid k1
    have kb : (m.kind == 1) = true := by simp [k1]
    clear k1
    go_enter Try.func140, Try.ntmps140
    go_wp2_with fail
    refine HC.out.mono ?_
    intro e w2 hp
    obtain ⟨rfl, hp2⟩ := hp
    go_wp2_with fail
    go_ret
    exact HE.out _ _ _ ⟨rfl, hp2⟩
  · have n1 : (m.kind == 1) = false := by simpa using k1
    by_cases k2 : m.kind = 2
    · have HC := Lib.hid (keep_any g base _ s (s.1.length : Int) wq HK.out)
      have HM := Lib.hid (show keepN s (s.1.length : Int) = mvR s m by unfold mvR; rw [if_neg k1, if_pos k2])
      have kb : (m.kind == 2) = true := by simp [k2]
      clear k1 k2
      go_enter Try.func140, Try.ntmps140
      go_wp2_with fail
      refine HC.out.mono ?_
      intro e w2 hp
      rw [HM.out] at hp
      obtain ⟨rfl, hp2⟩ := hp
      go_wp2_with fail
      go_ret
      exact HE.out _ _ _ ⟨rfl, hp2⟩
    · have n2 : (m.kind == 2) = false := by simpa using k2
      by_cases k3 : m.kind = 3
      · have HC := Lib.hid (keep_any g base _ s m.n wq HK.out)
        have HM := Lib.hid (show keepN s m.n = mvR s m by unfold mvR; rw [if_neg k1, if_neg k2, if_pos k3])
        have kb : (m.kind == 3) = true := by simp [k3]
        clear k1 k2 k3
        go_enter Try.func140, Try.ntmps140
        go_wp2_with fail
        refine HC.out.mono ?_
        intro e w2 hp
        rw [HM.out] at hp
        obtain ⟨rfl, hp2⟩ := hp
        go_wp2_with fail
        go_ret
        exact HE.out _ _ _ ⟨rfl, hp2⟩
      · have n3 : (m.kind == 3) = false := by simpa using k3
        by_cases k4 : m.kind = 4
        · have HC := Lib.hid (fall_any g base _ s m.n wq HK.out h5 m k4 rfl)
          have kb : (m.kind == 4) = true := by simp [k4]
          clear k1 k2 k3 k4
          go_enter Try.func140, Try.ntmps140
          go_wp2_with fail
          refine HC.out.mono ?_
          intro e w2 hp
          obtain ⟨rfl, hp2⟩ := hp
          go_wp2_with fail
          go_ret
          exact HE.out _ _ _ ⟨rfl, hp2⟩
        · have n4 : (m.kind == 4) = false := by simpa using k4
          have HM := Lib.hid (mv_other (s := s) k1 k2 k3 k4)
          clear k1 k2 k3 k4
          go_enter Try.func140, Try.ntmps140
          go_wp2_with fail
          go_ret
          refine HE.out _ _ _ ⟨by rw [HM.out]; rfl, _, by rw [HM.out]; exact HK.out, On2.refl _ _ _, .inl rfl⟩
end Go.Proofs.Ytmlgaedhfannmaa

/- The disk: run, Play and Held do what the mathematics says. -/
namespace Go.Proofs.Ytmlgaedhfannmaa
set_option linter.unusedVariables false
set_option linter.unusedSimpArgs false
open Go.RowKit

theorem info_errno : (Try.prog.info? 26).map (fun i => (i.zero, i.size, i.bytes)) = some (some (.int .i64 0), 1, 8) := by kernel_rfl
/-- The loop of run: k moves are done. -/
def RunR (ms : List Mv) (w : World) (g R : Nat) (gk : Nat) (v i : Value) (wr : World) : Prop :=
  ∃ (k : Nat) (cv : Value) (A : Option Addr) (c : Nat), v = .slice A k c ∧ i = .int .i64 (k : Int) ∧ k ≤ ms.length ∧ gk = ms.length - k ∧ DkBox wr g w.heap.size cv (plays0 (ms.take k)).2 ∧
    wr.ownsRow w.heap.size 26 1 v k ((plays0 (ms.take k)).1.map (Value.int .i64)) ∧ Blk wr R 207 #[.slice none 0 0, .int .i64 0] ∧ Below w.heap.size w wr
def RunPost (ms : List Mv) (w : World) (e : Ending) (w' : World) : Prop :=
  ∃ (A : Option Addr) (c : Nat) (A2 : Option Addr) (c2 : Nat), e = .returned (.tuple #[.slice A ms.length c, .agg #[.slice A2 (plays0 ms).2.1.length c2, .int .i64 ((plays0 ms).2.2 : Int)]]) ∧
    w'.ownsRow w.heap.size 26 1 (.slice A ms.length c) ms.length ((plays0 ms).1.map (Value.int .i64)) ∧
    w'.ownsRow w.heap.size 5 1 (.slice A2 (plays0 ms).2.1.length c2) (plays0 ms).2.1.length ((plays0 ms).2.1.map bv) ∧ Below w.heap.size w w'

theorem ret_dk {fn : Func} {R : Ending → World → Prop} {a : Act} {W : World} {g : Nat} {s1 s2 : Tmp} {v x0 x1 : Value}
    (hf : fn.results = #[.tmp s1, .cell s2 207]) (h1 : a.tmps.getD s1 undef = v) (h2 : a.tmps.getD s2 undef = .pointer (some ⟨g, 0, none⟩))
    (hb : Blk W g 207 #[x0, x1]) (hd : a.defers = []) (hR : R (.returned (.tuple #[v, .agg #[x0, x1]])) W) : bodyPost Try.prog fn R .ret a W := by
  refine bodyPost_ret ?_ hd hR
  have c0 : W.cell? ⟨g, 0, none⟩ = some x0 := hb.cell 0
  have c1 : W.cell? ⟨g, 1, none⟩ = some x1 := hb.cell 1
  simp only [Array.getD_eq_getD_getElem?] at h1 h2
  simp [results, hf, h1, h2, go_sem, c0, c1]
theorem DkBox.belowS {w w' : World} {g base : Nat} {cv : Value} {s : List UInt8 × Nat} (h : DkBox w g base cv s) (hb : Below w.heap.size w w') : DkBox w' g base cv s :=
  h.grown (only_below hb none) (by simp) (by cases cv.ownBlock <;> simp)
theorem own_belowS {w w' : World} {base e size n : Nat} {v : Value} {xs : List Value} (h : w.ownsRow base e size v n xs) (hb : Below w.heap.size w w') : w'.ownsRow base e size v n xs :=
  World.ownsRow.kept h (only_below hb none) (by cases v.ownBlock <;> simp)
/-- A box of three cells that is laid and filled: nothing else turns. -/
theorem put3_below (W : World) (z : Array Value) (t : TypeId) (a0 a1 a2 : Value) :
    Below W.heap.size W ((((W.alloc (.cells z t)).setCell ⟨W.heap.size, 0, none⟩ a0).setCell ⟨W.heap.size, 1, none⟩ a1).setCell ⟨W.heap.size, 2, none⟩ a2) :=
  ((((Below.refl W.heap.size W).alloc (Nat.le_refl _) _).setCell (Nat.le_refl _) _).setCell (Nat.le_refl _) _).setCell (Nat.le_refl _) _

set_option maxRecDepth 100000 in
theorem run_any (A : Option Addr) (n c B : Nat) (ms : List Mv) (w : World) (hl : MvsIn w B A n c ms) (hB : B ≤ w.heap.size) (hn : n ≤ 100) :
    Calls Try.prog 121 #[.slice A n c] w (RunPost ms w) := by
  have hms := hl.1
  have Hl := Lib.hid hl
  obtain ⟨i0, hi0, hz0, hz1, hz2⟩ := info_parts info_errno
  have hb2 : i0.bytes * n ≤ 281474976710656 := by rw [hz2]; omega
  have hb3 : n ≤ maxLen := by unfold maxLen; omega
  obtain ⟨w3, hrun, r1, r2⟩ := run_make_own (P := Try.prog) ((w.alloc (.cells #[.slice none 0 0, .int .i64 0] 207)).alloc (.cells #[.slice none 0 0, .int .i64 0] 207)) w.heap.size 184 26 i0 _ 1 Try.underlying184 hi0 hz0 hz1 .i64 .i64 n hb2 hb3 (by simp; omega)
  have hB1 := Blk.new w 207 #[.slice none 0 0, .int .i64 0]
  have hB2 := Blk.new (w.alloc (.cells #[.slice none 0 0, .int .i64 0] 207)) 207 #[.slice none 0 0, .int .i64 0]
  have hbe : Below w.heap.size w ((w.alloc (.cells #[.slice none 0 0, .int .i64 0] 207)).alloc (.cells #[.slice none 0 0, .int .i64 0] 207)) := ((Below.refl w.heap.size w).alloc (Nat.le_refl _) _).alloc (by simp) _
  have hR : Blk w3 w.heap.size 207 #[.slice none 0 0, .int .i64 0] := (hB1.alloc _).grown r2 (by simp)
  have hG : Blk w3 (w.heap.size + 1) 207 #[.slice none 0 0, .int .i64 0] := by
    have := hB2.grown r2 (by simp)
    simpa using this
  have hbe3 : Below w.heap.size w w3 := hbe.grown r2 (by simp; omega) (by simp)
  have r1' : w3.ownsRow w.heap.size 26 1 (.slice (some ⟨w.heap.size + 1 + 1, 0, none⟩) 0 n) 0 [] := by simpa using r1
  have Hst := Lib.hid (show RunR ms w (w.heap.size + 1) w.heap.size n (.slice (some ⟨w.heap.size + 1 + 1, 0, none⟩) 0 n) (.int .i64 0) w3 from
    ⟨0, .slice none 0 0, _, _, rfl, rfl, by omega, by omega, ⟨hG, World.ownsRow_nil _ _ _ _, disk0_ok⟩, r1', hR, hbe3⟩)
  clear hl hB1 hB2 hbe hR hG hbe3 r1 r1' r2
  go_enter Try.func121, Try.ntmps121
  go_wp2_with fail
  go_loopg [5, 13] n (RunR ms w (w.heap.size + 1) w.heap.size)
  case atStart => exact Hst.out
  case round =>
    clear Hst hrun hb2 hb3
    obtain ⟨k, cv, Ac, cc, rfl, rfl, hk, hgk, hbox, hrow, hR, hbe⟩ := hrel
    by_cases hlt : k < ms.length
    · obtain ⟨b, off, Ad, cd, rfl, hbB, hmi, c0, c1, c2⟩ := (Hl.out.below (hbe.mono hB)).at_ hlt
      have hmlt : (k : Int) < (n : Int) := by omega
      have Hgk := Lib.hid hgk
      have Hbox := Lib.hid hbox
      have Hrow := Lib.hid hrow
      have HR := Lib.hid hR
      have Hbe := Lib.hid hbe
      have Hmi := Lib.hid hmi
      have hsz := hbe.size
      have hbw : b < wr.heap.size := by omega
      clear hgk hbox hrow hR hbe hmi
      have HT := Lib.hid (plays0_take hlt)
      generalize hq : ms[k] = mk at *
      have Hm2 := Lib.hid (show MIn (wr.alloc (.cells #[.int .i64 mk.kind, .slice Ad mk.data.length cd, .int .i64 mk.n] 158)) (fun b => b < B) mk [.int .i64 mk.kind, .slice Ad mk.data.length cd, .int .i64 mk.n] from
        Hmi.out.kept fun p hp => World.cell?_alloc_lt _ _ p (by have : p.block < B := hp; omega))
      have HC := Lib.hid (move_any (w.heap.size + 1) w.heap.size cv _ _ (Hbox.out.alloc (.cells #[.int .i64 mk.kind, .slice Ad mk.data.length cd, .int .i64 mk.n] 158)) (by simp; omega) mk (fun b => b < B) (fun b hb => by have : b < B := hb; simp; omega) Ad cd Hm2.out)
      generalize hwq : wr.alloc (.cells #[.int .i64 mk.kind, .slice Ad mk.data.length cd, .int .i64 mk.n] 158) = wq at *
      have hnq : Blk wq wr.heap.size 158 #[.int .i64 mk.kind, .slice Ad mk.data.length cd, .int .i64 mk.n] := by rw [← hwq]; exact Blk.new wr 158 _
      have q0 : wq.cell? ⟨wr.heap.size, 0, none⟩ = some (.int .i64 mk.kind) := hnq.cell 0
      have q1 : wq.cell? ⟨wr.heap.size, 1, none⟩ = some (.slice Ad mk.data.length cd) := hnq.cell 1
      have q2 : wq.cell? ⟨wr.heap.size, 2, none⟩ = some (.int .i64 mk.n) := hnq.cell 2
      have hbq : Below wr.heap.size wr wq := by rw [← hwq]; exact (Below.refl _ _).alloc (Nat.le_refl _) _
      have Hbq := Lib.hid hbq
      have Hrow2 := Lib.hid (own_belowS Hrow.out hbq)
      have HR2 := Lib.hid (HR.out.below hbq HR.out.lt)
      have Hbx2 := Lib.hid (Hbox.out.belowS hbq)
      clear hbq Hm2 hnq
      go_wp2_with fail
      refine HC.out.mono ?_
      rintro e w2 ⟨rfl, cv2, hp1, hp2, hp3⟩
      have hgR : w.heap.size ≠ w.heap.size + 1 := by omega
      have hro : w2.ownsRow w.heap.size 26 1 (.slice Ac k cc) k ((plays0 (ms.take k)).1.map (Value.int .i64)) :=
        hp2.row Hrow2.out (row_box Hrow2.out Hbx2.out.1 (by decide)) (row_row Hrow2.out Hbx2.out.2.1 (by decide))
      have hRb : Blk w2 w.heap.size 207 #[.slice none 0 0, .int .i64 0] := (hp2.block _ HR2.out.lt hgR (fun e => row_box Hbx2.out.2.1 HR2.out (by decide) e.symm)).trans HR2.out
      have hbe2 : Below w.heap.size w w2 := ((Hbe.out.trans (Hbq.out.mono hsz))).trans (hp2.toBelow (Nat.le_trans hsz Hbq.out.size) (by omega) fun j hj => (World.ownsRow.lt Hbx2.out.2.1 j hj).1)
      have hs2 := hbe2.size
      have Hp1 := Lib.hid hp1
      have Hro := Lib.hid hro
      have HRb := Lib.hid hRb
      have Hbe2 := Lib.hid hbe2
      have hk1 : k + 1 ≤ 1048576 := by omega
      clear hp1 hp2 hp3 hro hRb hbe2 Hbox Hrow HR Hbe Hmi HC Hbq Hrow2 HR2 Hbx2
      generalize (mvR (plays0 (ms.take k)).2 mk).1 = code at *
      generalize (mvR (plays0 (ms.take k)).2 mk).2 = st at *
      go_wp2_with (at_builtin; refine wpList_append1 w2 (by rfl) _ _ 184 (by rfl) w.heap.size 26 i0 _ 8 Try.underlying184 hi0 hz0 hz1 hz2 rfl _ _ _ (by rfl) Hro.out (.int .i64 code) (by rfl) rfl hk1 (by decide) hs2 ?_; intro v3 w3 ho3 hg3 hb3)
      go_wp2
      go_roundg (n - (k + 1))
      case measure => have := Hgk.out; omega
      case rel =>
        have hg4 : w2.grownBy w3 (Value.slice Ac k cc).ownBlock := hg3
        obtain ⟨A3, c3, rfl, _⟩ := own_form ho3
        refine ⟨k + 1, cv2, A3, c3, rfl, by go_num, by omega, by omega, ?_, ?_, ?_, ?_⟩
        · rw [HT.out]
          exact Hp1.out.grown hg4 (fun e => row_box Hro.out Hp1.out.1 (by decide) e.symm) (row_row Hp1.out.2.1 Hro.out (by decide))
        · rw [HT.out, List.map_append]
          exact ho3
        · exact HRb.out.grown hg4 (fun e => row_box Hro.out HRb.out (by decide) e.symm)
        · exact Hbe2.out.grown hg4 hs2 fun j hj => (World.ownsRow.lt Hro.out j hj).1
    · have hnl : ¬ (k : Int) < (n : Int) := by omega
      have hke : k = ms.length := by omega
      have hte : ms.take k = ms := by rw [hke]; exact List.take_length
      obtain ⟨A2, c2, rfl, _⟩ := own_form hbox.2.1
      have b0 : wr.cell? ⟨w.heap.size + 1, 0, none⟩ = some (.slice A2 (plays0 (ms.take k)).2.1.length c2) := hbox.1.cell 0
      have b1 : wr.cell? ⟨w.heap.size + 1, 1, none⟩ = some (.int .i64 ((plays0 (ms.take k)).2.2 : Int)) := hbox.1.cell 1
      have r0 : wr.cell? ⟨w.heap.size, 0, none⟩ = some (.slice none 0 0) := hR.cell 0
      have r1 : wr.cell? ⟨w.heap.size, 1, none⟩ = some (.int .i64 0) := hR.cell 1
      have g0 := hR.frozen 0
      have g1 := hR.frozen 1
      have Hgk := Lib.hid hgk
      have Hbox := Lib.hid hbox
      have Hrow := Lib.hid hrow
      have HR := Lib.hid hR
      have Hbe := Lib.hid hbe
      have Hke := Lib.hid hke
      have Hte := Lib.hid hte
      clear hgk hbox hrow hR hbe hke hte hlt
      obtain ⟨pl, hpl⟩ : ∃ pl, plays0 (ms.take k) = pl := ⟨_, rfl⟩
      rw [hpl] at Hbox Hrow b0 b1
      have Hple := Lib.hid hpl
      clear hpl
      go_wp2_with fail
      go_region
      all_goals
        go_wp2_with fail
        have hB2 := (HR.out.set_ 0 (.slice A2 pl.2.1.length c2)).set_ 1 (.int .i64 (pl.2.2 : Int))
        have hon := ((On2.refl wr w.heap.size none).set_ (p := ⟨w.heap.size, 0, none⟩) (.inl rfl) (.slice A2 pl.2.1.length c2)).set_ (p := ⟨w.heap.size, 1, none⟩) (.inl rfl) (.int .i64 (pl.2.2 : Int))
        have ho1 := hon.row Hrow.out (row_box Hrow.out HR.out (by decide)) (by cases (Value.slice Ac k cc).ownBlock <;> simp)
        have ho2 := hon.row Hbox.out.2.1 (row_box Hbox.out.2.1 HR.out (by decide)) (by cases (Value.slice A2 pl.2.1.length c2).ownBlock <;> simp)
        have hbf := Hbe.out.trans (hon.toBelow (B := w.heap.size) Hbe.out.size (Nat.le_refl _) (by simp))
        refine ret_dk (g := w.heap.size) rfl rfl rfl hB2 rfl ?_
        have hpe := Hple.out
        subst hpe
        rw [Hte.out] at ho1 ho2 hbf ⊢
        rw [Hke.out] at ho1 ⊢
        exact ⟨Ac, cc, A2, c2, rfl, ho1, ho2, below_drewN hbf 1⟩

def PlayPost (ms : List Mv) (w : World) (e : Ending) (w' : World) : Prop :=
  ∃ (A : Option Addr) (c : Nat) (A2 : Option Addr) (c2 : Nat), e = .returned (.tuple #[.slice A ms.length c, .slice A2 (plays0 ms).2.1.length c2, .int .i64 0]) ∧
    w'.ownsRow w.heap.size 26 1 (.slice A ms.length c) ms.length ((plays0 ms).1.map (Value.int .i64)) ∧
    w'.ownsRow w.heap.size 5 1 (.slice A2 (plays0 ms).2.1.length c2) (plays0 ms).2.1.length ((plays0 ms).2.1.map bv) ∧ Below w.heap.size w w'
theorem play_long (A : Option Addr) (n c : Nat) (w : World) (hn : ¬ n ≤ 100) :
    Calls Try.prog 104 #[.slice A n c] w fun e w' => e = .returned (.tuple #[.slice none 0 0, .slice none 0 0, .int .i64 1]) ∧ w' = w := by
  have h1 : (100 : Int) < (n : Int) := by omega
  clear hn
  go_enter Try.func104, Try.ntmps104
  go_wp2_with fail
  go_ret3
  exact ⟨rfl, rfl⟩
theorem play_any (A : Option Addr) (n c B : Nat) (ms : List Mv) (w : World) (hl : MvsIn w B A n c ms) (hB : B ≤ w.heap.size) (hn : n ≤ 100) :
    Calls Try.prog 104 #[.slice A n c] w (PlayPost ms w) := by
  have HC := Lib.hid (run_any A n c B ms w hl hB hn)
  have h1 : ¬ (100 : Int) < (n : Int) := by omega
  clear hl hn
  go_enter Try.func104, Try.ntmps104
  go_wp2_with fail
  refine HC.out.mono ?_
  rintro e w2 ⟨A1, c1, A2, c2, rfl, ho1, ho2, hbe⟩
  have Ho1 := Lib.hid ho1
  have Ho2 := Lib.hid ho2
  have Hbe := Lib.hid hbe
  have hsz := hbe.size
  clear ho1 ho2 hbe HC
  obtain ⟨pl, hpl⟩ : ∃ pl, plays0 ms = pl := ⟨_, rfl⟩
  have Hpl := Lib.hid hpl
  rw [hpl] at Ho1 Ho2 ⊢
  clear hpl
  have hn1 := Blk.new w2 207 #[.slice A2 pl.2.1.length c2, .int .i64 (pl.2.2 : Int)]
  have q0 : (w2.alloc (.cells #[.slice A2 pl.2.1.length c2, .int .i64 (pl.2.2 : Int)] 207)).cell? ⟨w2.heap.size, 0, none⟩ = some (.slice A2 pl.2.1.length c2) := hn1.cell 0
  clear hn1
  go_wp2_with fail
  go_quiet (fail)
  go_wp2_with fail
  go_ret3
  have hp := Hpl.out
  subst hp
  exact ⟨A1, c1, A2, c2, rfl, own_belowS Ho1.out (below_drewN ((Below.refl w2.heap.size w2).alloc (Nat.le_refl _) _) _), own_belowS Ho2.out (below_drewN ((Below.refl w2.heap.size w2).alloc (Nat.le_refl _) _) _), below_drewN (Hbe.out.alloc hsz _) _⟩
end Go.Proofs.Ytmlgaedhfannmaa
