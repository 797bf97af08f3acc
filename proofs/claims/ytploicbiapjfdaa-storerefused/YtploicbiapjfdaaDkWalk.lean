/- The disk: keep, write, fall and move do what the mathematics says. -/
import Derived.Test.YtploicbiapjfdaaBunDA
import Derived.Test.YtploicbiapjfdaaOwnB
import Derived.StillTailTactics
import Derived.BigQuiet
namespace Go.Proofs.Ytploicbiapjfdaa
set_option linter.unusedVariables false
set_option linter.unusedSimpArgs false
open Go.RowKit

/-- The disk s lies in box g; its bytes are a row of the call's own. -/
def DkBox (w : World) (g base : Nat) (cv : Value) (s : List UInt8 × Nat) : Prop :=
  Blk w g 85 #[cv, .int .i64 (s.2 : Int)] ∧ w.ownsRow base 5 1 cv s.1.length (s.1.map bv) ∧ DsOk s
def DkPost (w : World) (g base : Nat) (cv : Value) (r : Int × (List UInt8 × Nat)) (e : Ending) (w' : World) : Prop :=
  e = .returned (.int .i64 r.1) ∧ ∃ cv', DkBox w' g base cv' r.2 ∧ On2 w w' g cv.ownBlock ∧ (cv'.ownBlock = cv.ownBlock ∨ ∀ k, cv'.ownBlock = some k → w.heap.size ≤ k)
theorem own_block_any (A : Option Addr) (n n' c c' : Nat) : (Value.slice A n c).ownBlock = (Value.slice A n' c').ownBlock := by cases A <;> rfl
theorem DkBox.alloc {w : World} {g base : Nat} {cv : Value} {s : List UInt8 × Nat} (h : DkBox w g base cv s) (o : Obj) : DkBox (w.alloc o) g base cv s := ⟨h.1.alloc o, h.2.1.alloc o, h.2.2⟩
theorem DkBox.grown {w w' : World} {g base : Nat} {cv : Value} {s : List UInt8 × Nat} {row : Option Nat} (h : DkBox w g base cv s) (hg : w.grownBy w' row) (h1 : some g ≠ row) (h2 : cv.ownBlock = none ∨ cv.ownBlock ≠ row) : DkBox w' g base cv s :=
  ⟨h.1.grown hg h1, World.ownsRow.kept h.2.1 hg h2, h.2.2⟩

theorem keep_any (g base : Nat) (cv : Value) (s : List UInt8 × Nat) (n : Int) (w : World) (hb : DkBox w g base cv s) :
    Calls Try.prog 89 #[.pointer (some ⟨g, 0, none⟩), .int .i64 n] w (DkPost w g base cv (keepN s n)) := by
  obtain ⟨hB, hO, hok⟩ := hb
  obtain ⟨A, c, rfl, hA⟩ := own_form hO
  have hcap : s.1.length ≤ c := by
    rcases hO.2 with ⟨hv, hn⟩ | ⟨g', cap, cur, hv, _, _, hnc, _⟩
    · omega
    · injection hv with _ _ hc; omega
  have c0 : w.cell? ⟨g, 0, none⟩ = some (.slice A s.1.length c) := hB.cell 0
  have c1 : w.cell? ⟨g, 1, none⟩ = some (.int .i64 (s.2 : Int)) := hB.cell 1
  have f0 := hB.frozen 0
  have f1 := hB.frozen 1
  have HB := Lib.hid hB
  have HO := Lib.hid hO
  have Hok := Lib.hid hok
  clear hB hO hok hA
  by_cases hneg : n < 0
  · have HR := Lib.hid (keepN_no (s := s) (.inl hneg))
    go_enter Try.func89, Try.ntmps89
    go_wp2
    go_ret
    exact ⟨by rw [HR.out]; rfl, _, by rw [HR.out]; exact ⟨HB.out, HO.out, Hok.out⟩, On2.refl _ _ _, .inl rfl⟩
  · by_cases hbig : (s.1.length : Int) < n
    · have HR := Lib.hid (keepN_no (s := s) (.inr hbig))
      go_enter Try.func89, Try.ntmps89
      go_wp2
      go_ret
      exact ⟨by rw [HR.out]; rfl, _, by rw [HR.out]; exact ⟨HB.out, HO.out, Hok.out⟩, On2.refl _ _ _, .inl rfl⟩
    · obtain ⟨k, rfl⟩ : ∃ k : Nat, n = (k : Int) := ⟨n.toNat, by omega⟩
      have hk : k ≤ s.1.length := by omega
      have HR := Lib.hid (keepN_yes (s := s) hk)
      have HO2 := Lib.hid (own_first HO.out hk)
      have hkc : k ≤ c := by omega
      obtain ⟨i0, hi0, hz0, hz1, hz2⟩ := info_parts info_u8
      go_enter Try.func89, Try.ntmps89
      go_wp2
      go_ret
      have hB2 := (HB.out.set_ 0 (.slice A k c)).set_ 1 (.int .i64 (k : Int))
      have hne : some g ≠ (Value.slice A s.1.length c).ownBlock := fun e => row_box HO.out HB.out (by decide) e.symm
      have hrow : ((w.setCell ⟨g, 0, none⟩ (.slice A k c)).setCell ⟨g, 1, none⟩ (.int .i64 (k : Int))).ownsRow base 5 1 (.slice A k c) k ((s.1.take k).map bv) := by
        have hon := ((On2.refl w g none).set_ (p := ⟨g, 0, none⟩) (.inl rfl) (.slice A k c)).set_ (p := ⟨g, 1, none⟩) (.inl rfl) (.int .i64 (k : Int))
        exact hon.row HO2.out (fun e => hne (e.symm.trans (own_block_any _ _ _ _ _))) (by cases A <;> simp [Value.ownBlock])
      have hok2 : DsOk (s.1.take k, k) := by
        have := keepN_ok (n := (k : Int)) Hok.out
        rwa [HR.out] at this
      refine ⟨by rw [HR.out]; rfl, .slice A k c, ?_, ?_, .inl (own_block_any _ _ _ _ _)⟩
      · rw [HR.out]
        exact ⟨hB2, by simpa [List.length_take, Nat.min_eq_left hk] using hrow, hok2⟩
      · exact ((On2.refl w g _).set_ (p := ⟨g, 0, none⟩) (.inl rfl) (.slice A k c)).set_ (p := ⟨g, 1, none⟩) (.inl rfl) (.int .i64 (k : Int))

set_option maxRecDepth 100000 in
theorem write_any (g base : Nat) (cv : Value) (s : List UInt8 × Nat) (B : Nat) (Ad : Option Addr) (cd : Nat) (d : List UInt8) (w : World) (hb : DkBox w g base cv s) (hbase : base ≤ w.heap.size)
    (hd : Holds w B 1 Ad d.length (d.map bv)) (hcd : Ad = none → cd = 0) (hdl : d.length ≤ 1048576) (m : Mv) (hm : m.kind = 1) (hmd : m.data = d) :
    Calls Try.prog 88 #[.pointer (some ⟨g, 0, none⟩), .slice Ad d.length cd] w (DkPost w g base cv (mvR s m)) := by
  obtain ⟨hB, hO, hok⟩ := hb
  subst hmd
  obtain ⟨A, c, rfl, hA⟩ := own_form hO
  have c0 : w.cell? ⟨g, 0, none⟩ = some (.slice A s.1.length c) := hB.cell 0
  have f0 := hB.frozen 0
  have hs2 := hok.2
  have hw : IntKind.i64.wrap (1200 - (s.1.length : Int)) = 1200 - (s.1.length : Int) := by
    have := hok.2
    simp [IntKind.wrap, IntKind.signed, IntKind.bits]
    omega
  by_cases hfull : 1200 < s.1.length + m.data.length
  · have HR := Lib.hid (mv_write_full hm hfull)
    have ht : 1200 - (s.1.length : Int) < (m.data.length : Int) := by omega
    have HB := Lib.hid hB
    have HO := Lib.hid hO
    have Hok := Lib.hid hok
    clear hB hO hok hA hs2 hfull hd hdl
    go_enter Try.func88, Try.ntmps88
    go_wp2
    go_ret
    exact ⟨by rw [HR.out]; rfl, _, by rw [HR.out]; exact ⟨HB.out, HO.out, Hok.out⟩, On2.refl _ _ _, .inl rfl⟩
  · have HR := Lib.hid (mv_write hm hfull)
    have ht : ¬ (1200 - (s.1.length : Int) < (m.data.length : Int)) := by omega
    have hlen : s.1.length + m.data.length ≤ 1048576 := by omega
    have HB := Lib.hid hB
    have HO := Lib.hid hO
    have Hok := Lib.hid hok
    have Hd := Lib.hid hd
    obtain ⟨i0, hi0, hz0, hz1, hz2⟩ := info_parts info_u8
    have hok2 := Lib.hid (mvR_ok (m := m) hok)
    clear hB hO hok hA hs2 hfull hd hdl
    go_enter Try.func88, Try.ntmps88
    go_wp2_with (at_builtin; refine wpList_append_all w (by rfl) _ _ 24 (by rfl) base 5 i0 _ 1 1 Try.underlying24 hi0 hz0 hz1 hz2 rfl (by decide) _ _ _ (by rfl) HO.out B Ad m.data.length cd (m.data.map bv) (by rfl) hcd Hd.out (bv_one _) hlen (by decide) hbase ?_; intro v1 w1 ho1 hg1 hb1; obtain ⟨A1, c1, rfl, _⟩ := own_form ho1; have k1 := (HB.out.grown hg1 (fun e => row_box HO.out HB.out (by decide) e.symm)).frozen 0; have k2 : w1.cell? ⟨g, 0, none⟩ = some (.slice A s.1.length c) := (HB.out.grown hg1 (fun e => row_box HO.out HB.out (by decide) e.symm)).cell 0)
    go_wp2
    go_ret
    have hB1 := HB.out.grown hg1 (fun e => row_box HO.out HB.out (by decide) e.symm)
    have hB2 := hB1.set_ 0 (.slice A1 (s.1.length + m.data.length) c1)
    have hon1 : On2 w w1 g (Value.slice A s.1.length c).ownBlock := (On2.refl w g _).grown hg1 (.inl rfl)
    have hon2 := hon1.set_ (p := ⟨g, 0, none⟩) (.inl rfl) (.slice A1 (s.1.length + m.data.length) c1)
    have hv1 : (Value.slice A1 (s.1.length + m.data.length) c1).ownBlock ≠ some g := row_box ho1 hB1 (by decide)
    have ho2 : (w1.setCell ⟨g, 0, none⟩ (.slice A1 (s.1.length + m.data.length) c1)).ownsRow base 5 1 (.slice A1 (s.1.length + m.data.length) c1) (s.1.length + m.data.length) (s.1.map bv ++ m.data.map bv) :=
      ((On2.refl w1 g none).set_ (p := ⟨g, 0, none⟩) (.inl rfl) (.slice A1 (s.1.length + m.data.length) c1)).row ho1 hv1 (by cases (Value.slice A1 (s.1.length + m.data.length) c1).ownBlock <;> simp)
    have ho3 := hok2.out
    rw [HR.out] at ho3
    refine ⟨by rw [HR.out]; rfl, (.slice A1 (s.1.length + m.data.length) c1), ?_, hon2, ?_⟩
    · rw [HR.out]
      exact ⟨hB2, by simpa [List.map_append] using ho2, ho3⟩
    · rcases hb1 with hb1 | hb1
      · exact .inl hb1
      · refine .inr fun k hk => ?_
        rw [hb1] at hk; injection hk with hk; omega

set_option maxRecDepth 100000 in
theorem fall_any (g base : Nat) (cv : Value) (s : List UInt8 × Nat) (n : Int) (w : World) (hb : DkBox w g base cv s) (hn : -9223372036854775808 ≤ n ∧ n ≤ 9223372036854775807) (m : Mv) (hm : m.kind = 4) (hmn : m.n = n) :
    Calls Try.prog 90 #[.pointer (some ⟨g, 0, none⟩), .int .i64 n] w (DkPost w g base cv (mvR s m)) := by
  subst hmn
  have HK := Lib.hid hb
  obtain ⟨hB, hO, hok⟩ := hb
  obtain ⟨A, c, rfl, hA⟩ := own_form hO
  have c0 : w.cell? ⟨g, 0, none⟩ = some (.slice A s.1.length c) := hB.cell 0
  have c1 : w.cell? ⟨g, 1, none⟩ = some (.int .i64 (s.2 : Int)) := hB.cell 1
  by_cases hneg : m.n < 0
  · have HR := Lib.hid (mv_fall_bad (s := s) hm hneg)
    clear hB hO hok hA
    go_enter Try.func90, Try.ntmps90
    go_wp2
    go_ret
    exact ⟨by rw [HR.out]; rfl, _, by rw [HR.out]; exact HK.out, On2.refl _ _ _, .inl rfl⟩
  · obtain ⟨k, hk⟩ : ∃ k : Nat, k = s.2 + min m.n.toNat (s.1.length - s.2) := ⟨_, rfl⟩
    have HR := Lib.hid (mv_fall hm (by omega) hok.1 hk)
    have hkl : k ≤ s.1.length := by have := hok.1; omega
    have HQ := Lib.hid (keepN_yes hkl)
    have hw1 : IntKind.i64.wrap ((s.1.length : Int) - (s.2 : Int)) = (s.1.length : Int) - (s.2 : Int) := by
      have := hok.1; have := hok.2
      simp [IntKind.wrap, IntKind.signed, IntKind.bits]
      omega
    have Hw2 := Lib.hid (show ∀ x : Int, x = min m.n ((s.1.length : Int) - (s.2 : Int)) → wrap64 ((s.2 : Int) + x) = (k : Int) from fun x hx => by
      have := hok.1; have := hok.2
      simp [wrap64, IntKind.wrap, IntKind.signed, IntKind.bits]
      omega)
    have HK2 := Lib.hid (show DkBox w.drew g base (.slice A s.1.length c) s from ⟨HK.out.1, HK.out.2.1, HK.out.2.2⟩)
    have HC := Lib.hid (fun W (h : DkBox W g base (.slice A s.1.length c) s) => keep_any g base (.slice A s.1.length c) s (k : Int) W h)
    clear hB hO hok hA hk hkl
    go_enter Try.func90, Try.ntmps90
    go_wp2_with fail
    go_still_tail 18, (by kernel_rfl)
    change wpList _ _ _ _ _ w.drew
    go_wp2_with fail
    all_goals
      first
      | rw [Hw2.out m.n (by omega)]
      | rw [Hw2.out ((s.1.length : Int) - (s.2 : Int)) (by omega)]
      refine (HC.out _ HK2.out).mono ?_
      rintro e w2 ⟨rfl, cv2, h1, h2, h3⟩
      go_wp2
      go_ret
      refine ⟨by rw [HR.out, HQ.out]; rfl, cv2, ?_, ?_, ?_⟩
      · rw [HR.out]; rw [HQ.out] at h1; exact h1
      · exact ⟨h2.os, h2.tape, h2.output, h2.size, h2.block⟩
      · exact h3

/-- A post of a call in a world with one block more. -/
theorem DkPost.alloc {w w' : World} {g base : Nat} {cv : Value} {r : Int × (List UInt8 × Nat)} {e : Ending} {o : Obj} (hg : g < w.heap.size) (hcv : ∀ k, cv.ownBlock = some k → k < w.heap.size) (h : DkPost (w.alloc o) g base cv r e w') : DkPost w g base cv r e w' := by
  obtain ⟨h1, cv', h2, h3, h4⟩ := h
  refine ⟨h1, cv', h2, ((On2.refl w g _).alloc o).trans h3 (.inl rfl), ?_⟩
  rcases h4 with h4 | h4
  · exact .inl h4
  · exact .inr fun k hk => by have := h4 k hk; simp at this; omega

set_option maxRecDepth 100000 in
theorem move_any (g base : Nat) (cv : Value) (s : List UInt8 × Nat) (w : World) (hb : DkBox w g base cv s) (hbase : base ≤ w.heap.size) (m : Mv) (S : Nat → Prop) (hS : ∀ b, S b → b < w.heap.size) (Ad : Option Addr) (cd : Nat)
    (hm : MIn w S m [.int .i64 m.kind, .slice Ad m.data.length cd, .int .i64 m.n]) :
    Calls Try.prog 66 #[.pointer (some ⟨g, 0, none⟩), .agg #[.int .i64 m.kind, .slice Ad m.data.length cd, .int .i64 m.n]] w (DkPost w g base cv (mvR s m)) := by
  obtain ⟨A0, c0, he, h1, h2, h3, h4, h5, h6⟩ := hm
  simp only [List.cons.injEq, Value.slice.injEq, true_and, and_true] at he
  obtain ⟨rfl, rfl⟩ := he
  have HK := Lib.hid (hb.alloc (.cells #[.int .i64 m.kind, .slice Ad m.data.length cd, .int .i64 m.n] 60))
  have Hd := Lib.hid ((h6.toB hS).alloc (Nat.le_refl _) (.cells #[.int .i64 m.kind, .slice Ad m.data.length cd, .int .i64 m.n] 60))
  have hbk := Blk.new w 60 #[.int .i64 m.kind, .slice Ad m.data.length cd, .int .i64 m.n]
  have hgl := hb.1.lt
  have hcl : ∀ k, cv.ownBlock = some k → k < w.heap.size := fun k hk => (World.ownsRow.lt hb.2.1 k hk).2
  have HE := Lib.hid (fun r e w' (h : DkPost (w.alloc (.cells #[.int .i64 m.kind, .slice Ad m.data.length cd, .int .i64 m.n] 60)) g base cv r e w') => DkPost.alloc hgl hcl h)
  have hb1 : base ≤ (w.alloc (.cells #[.int .i64 m.kind, .slice Ad m.data.length cd, .int .i64 m.n] 60)).heap.size := by simp; omega
  have c0 : (w.alloc (.cells #[.int .i64 m.kind, .slice Ad m.data.length cd, .int .i64 m.n] 60)).cell? ⟨w.heap.size, 0, none⟩ = some (.int .i64 m.kind) := hbk.cell 0
  have c1 : (w.alloc (.cells #[.int .i64 m.kind, .slice Ad m.data.length cd, .int .i64 m.n] 60)).cell? ⟨w.heap.size, 1, none⟩ = some (.slice Ad m.data.length cd) := hbk.cell 1
  have c2 : (w.alloc (.cells #[.int .i64 m.kind, .slice Ad m.data.length cd, .int .i64 m.n] 60)).cell? ⟨w.heap.size, 2, none⟩ = some (.int .i64 m.n) := hbk.cell 2
  have hg0 : ∃ A c, cv = .slice A s.1.length c := by obtain ⟨A, c, h, _⟩ := own_form hb.2.1; exact ⟨A, c, h⟩
  obtain ⟨A, c, rfl⟩ := hg0
  have cc : (w.alloc (.cells #[.int .i64 m.kind, .slice Ad m.data.length cd, .int .i64 m.n] 60)).cell? ⟨g, 0, none⟩ = some (.slice A s.1.length c) := HK.out.1.cell 0
  have Hcd := Lib.hid h3
  have Hb1 := Lib.hid hb1
  clear hb hbk hb1 h6 hbase h3 hcl
  generalize hwq : w.alloc (.cells #[.int .i64 m.kind, .slice Ad m.data.length cd, .int .i64 m.n] 60) = wq at *
  by_cases k1 : m.kind = 1
  · have HC := Lib.hid (write_any g base _ s _ Ad cd m.data wq HK.out Hb1.out Hd.out Hcd.out h1 m k1 rfl)
    have K1 := Lib.hid k1
    have kb : (m.kind == 1) = true := by simp [k1]
    clear k1
    go_enter Try.func66, Try.ntmps66
    go_wp2_with fail
    refine HC.out.mono ?_
    intro e w2 hp
    obtain ⟨rfl, hp2⟩ := hp
    go_wp2_with fail
    go_ret
    exact HE.out _ _ _ ⟨rfl, hp2⟩
  · have n1 : (m.kind == 1) = false := by simpa using k1
    by_cases k2 : m.kind = 2
    · have HC := Lib.hid (keep_any g base _ s (s.1.length : Int) wq HK.out)
      have HM := Lib.hid (show keepN s (s.1.length : Int) = mvR s m by unfold mvR; rw [if_neg k1, if_pos k2])
      have kb : (m.kind == 2) = true := by simp [k2]
      clear k1 k2
      go_enter Try.func66, Try.ntmps66
      go_wp2_with fail
      refine HC.out.mono ?_
      intro e w2 hp
      rw [HM.out] at hp
      obtain ⟨rfl, hp2⟩ := hp
      go_wp2_with fail
      go_ret
      exact HE.out _ _ _ ⟨rfl, hp2⟩
    · have n2 : (m.kind == 2) = false := by simpa using k2
      by_cases k3 : m.kind = 3
      · have HC := Lib.hid (keep_any g base _ s m.n wq HK.out)
        have HM := Lib.hid (show keepN s m.n = mvR s m by unfold mvR; rw [if_neg k1, if_neg k2, if_pos k3])
        have kb : (m.kind == 3) = true := by simp [k3]
        clear k1 k2 k3
        go_enter Try.func66, Try.ntmps66
        go_wp2_with fail
        refine HC.out.mono ?_
        intro e w2 hp
        rw [HM.out] at hp
        obtain ⟨rfl, hp2⟩ := hp
        go_wp2_with fail
        go_ret
        exact HE.out _ _ _ ⟨rfl, hp2⟩
      · have n3 : (m.kind == 3) = false := by simpa using k3
        by_cases k4 : m.kind = 4
        · have HC := Lib.hid (fall_any g base _ s m.n wq HK.out h5 m k4 rfl)
          have kb : (m.kind == 4) = true := by simp [k4]
          clear k1 k2 k3 k4
          go_enter Try.func66, Try.ntmps66
          go_wp2_with fail
          refine HC.out.mono ?_
          intro e w2 hp
          obtain ⟨rfl, hp2⟩ := hp
          go_wp2_with fail
          go_ret
          exact HE.out _ _ _ ⟨rfl, hp2⟩
        · have n4 : (m.kind == 4) = false := by simpa using k4
          have HM := Lib.hid (mv_other (s := s) k1 k2 k3 k4)
          clear k1 k2 k3 k4
          go_enter Try.func66, Try.ntmps66
          go_wp2_with fail
          go_ret
          refine HE.out _ _ _ ⟨by rw [HM.out]; rfl, _, by rw [HM.out]; exact HK.out, On2.refl _ _ _, .inl rfl⟩
end Go.Proofs.Ytploicbiapjfdaa
