/- ValueOf of the statements: arrays and objects. -/
import Derived.Test.YthkbeliplibiaaaGreatDoorJGenB
import Derived.Test.YthkbeliplibiaaaGreatDoorJObjM
namespace Go.Proofs.YthkbeliplibiaaaGreatDoor
set_option linter.unusedVariables false
set_option linter.unusedSimpArgs false
open Go.RowKit

/-- A world with two blocks more. -/
def w2 (w : World) : World := (w.alloc (.cells #[] 0)).alloc (.cells #[] 0)
theorem w2_size (w : World) : (w2 w).heap.size = w.heap.size + 2 := by simp [w2]
theorem Blk.drew {w : World} {g : Nat} {t : TypeId} {cs : Array Value} (h : Blk w g t cs) : Blk w.drew g t cs := h
theorem keyL_len : ∀ s ∈ keyL, s.length ≤ 1048576 := by decide
/-- The loop over the parts: w: when the call began; w0: the two boxes laid. -/
def GenR (deep B : Nat) (kd : Int) (m : Nat) (w : World) (gk : Nat) (l i : Value) (wr : World) : Prop :=
  ∃ (j : Nat) (ps : List JV) (A : Option Addr) (n c : Nat) (kv pv : Value), i = .int .i64 j ∧ j ≤ m ∧ gk = m - j ∧ l = .slice A n c ∧ IntsAt wr B A n c ∧ ps.length = j ∧
    Blk wr w.heap.size 25 #[.int .i64 0, .int .i64 0, str [], .slice none 0 0, .slice none 0 0] ∧
    Blk wr (w.heap.size + 1) 25 #[.int .i64 kd, .int .i64 0, str [], kv, pv] ∧
    ObjOwn (w2 w) wr kv pv (if kd = 7 then keyL.take j else []) ps ∧ (∀ p ∈ ps, OkAt (deep - 1) p) ∧ counts ps ≤ j * cnt3 (deep - 1) ∧ Below w.heap.size w wr ∧ w.heap.size + 2 ≤ wr.heap.size

set_option maxRecDepth 100000 in
set_option maxHeartbeats 4000000 in
theorem gen_arr (deep : Nat) (h2 : 2 ≤ deep) (h5 : deep ≤ 5) (ih : GenOk (deep - 1)) (b off n c B : Nat) (w : World) (hB : B ≤ w.heap.size) (hb : b < B) (z : Int) (hcell : w.cell? ⟨b, off, none⟩ = some (.int .i64 z)) (hn : 0 < n)
    (hz0 : -9223372036854775808 ≤ z) (hz9 : z ≤ 9223372036854775807)
    (A1 : Option Addr) (n1 c1 : Nat) (hI1 : IntsAt w B A1 n1 c1) (hcut : ∀ W, (Instr.slice 31 (.slice (some ⟨b, off, none⟩) n c) (some (.int .i64 1)) none none).run Tryz.prog W = .ok (.slice A1 n1 c1) W)
    (k : Int) (hk5 : 5 ≤ k) (hk9 : k < 9) (pk : ∀ W, Calls Tryz.prog 27 #[.int .i64 z, .int .i64 9] W fun e w' => e = .returned (.int .i64 k) ∧ W = w')
    (q : Int) (hq : z.tdiv 9 = q) (hqb : -9223372036854775808 ≤ q ∧ q ≤ 9223372036854775807) :
    Calls Tryz.prog 28 #[.slice (some ⟨b, off, none⟩) n c, .int .i64 deep] w (VPost deep B w) := by
  have hnI : (0 : Int) < (n : Int) := by omega
  have hbsz : b < w.heap.size := by omega
  have pk4 := fun W => picked_any q 4 W (by omega) (by omega)
  obtain ⟨m, hm⟩ : ∃ m : Nat, q % 4 = (m : Int) := ⟨(q % 4).toNat, by omega⟩
  have hm3 : m ≤ 3 := by omega
  rw [hm] at pk4
  clear hm
  have hk2b : (k == 2) = false := by simp; omega
  have hdI : (1 : Int) < (deep : Int) := by omega
  have ih' : ∀ (A : Option Addr) (n c : Nat) (B : Nat) (w : World), B ≤ w.heap.size → IntsAt w B A n c → Calls Tryz.prog 28 #[.slice A n c, .int .i64 ((deep : Int) - 1)] w (VPost (deep - 1) B w) := by
    intro A n c B w h1 h2
    have h := ih A n c B w h1 h2
    rwa [show ((deep - 1 : Nat) : Int) = (deep : Int) - 1 by omega] at h
  clear ih
  have hB0 := Blk.new w 25 #[.int .i64 0, .int .i64 0, str [], .slice none 0 0, .slice none 0 0]
  have hw1 : (w.alloc (.cells #[.int .i64 0, .int .i64 0, str [], .slice none 0 0, .slice none 0 0] 25)).heap.size = w.heap.size + 1 := by simp
  have Hw1 := Lib.hid hw1
  clear hw1
  obtain ⟨kd, hkd⟩ : ∃ kd : Int, (k ≤ 6 ∧ kd = 6) ∨ (6 < k ∧ kd = 7) := by
    by_cases h : k ≤ 6
    · exact ⟨6, .inl ⟨h, rfl⟩⟩
    · exact ⟨7, .inr ⟨by omega, rfl⟩⟩
  rcases hkd with ⟨hk6, rfl⟩ | ⟨hk6, rfl⟩
  · go_enter Tryz.func28, Tryz.ntmps28
    go_wp2_with fail
    refine (pk _).mono ?_
    rintro e y ⟨rfl, rfl⟩
    go_wp2_with fail
    go_loopg [0, 9] m (GenR deep B 6 m w)
    case atStart =>
      have hb2 := Blk.new (w.alloc (.cells #[.int .i64 0, .int .i64 0, str [], .slice none 0 0, .slice none 0 0] 25)) 25 #[.int .i64 6, .int .i64 0, str [], .slice none 0 0, .slice none 0 0]
      rw [Hw1.out] at hb2
      have hbb : Below w.heap.size w ((w.alloc (.cells #[.int .i64 0, .int .i64 0, str [], .slice none 0 0, .slice none 0 0] 25)).alloc (.cells #[.int .i64 6, .int .i64 0, str [], .slice none 0 0, .slice none 0 0] 25)) :=
        ((Below.refl _ _).alloc (Nat.le_refl _) _).alloc (by simp) _
      exact ⟨0, [], A1, n1, c1, _, _, rfl, by omega, by omega, rfl, hI1.below (hbb.mono hB), rfl, hB0.alloc _, hb2, ObjOwn.nil _ _, by simp, by simp [counts], hbb, by simp⟩
    case round =>
      obtain ⟨j, ps, A, n', c', kv, pv, rfl, hj, hgk, rfl, hI, hpl, hbr, hbv, hown, hok, hcn, hbl, hsz⟩ := hrel
      have Hgk := Lib.hid hgk
      have Hpl := Lib.hid hpl
      have Hok := Lib.hid hok
      have Hcn := Lib.hid hcn
      clear hgk hpl hok hcn
      by_cases hlt : j < m
      · have hltI : (j : Int) < (m : Int) := by omega
        go_wp2_with fail
        refine (pk4 _).mono ?_
        rintro e y ⟨rfl, rfl⟩
        go_wp2_with fail
        have hwa := (Below.refl wr.heap.size wr).alloc (Nat.le_refl _) (.cells #[.int .i64 0, .int .i64 0, str [], .slice none 0 0, .slice none 0 0] 25)
        have hbp := Blk.new wr 25 #[.int .i64 0, .int .i64 0, str [], .slice none 0 0, .slice none 0 0]
        have Hwz := Lib.hid (show (wr.alloc (.cells #[.int .i64 0, .int .i64 0, str [], .slice none 0 0, .slice none 0 0] 25)).heap.size = wr.heap.size + 1 by simp)
        refine (ih' A n' c' B _ (by simp; omega) (hI.below (hwa.mono (by omega)))).mono ?_
        rintro e y1 ⟨v2, cs2, A2, n2, c2, rfl, hv2, hok2, hct2, hI2, hbl2⟩
        obtain ⟨k2, m2, t2, Ak2, nk2, ck2, Ap2, np2, cp2, rfl⟩ := hv2.form
        have hz1 : wr.heap.size + 1 ≤ y1.heap.size := by have := hbl2.size; rw [Hwz.out] at this; exact this
        have hbp1 := hbp.below hbl2 (by rw [Hwz.out]; omega)
        have hwy : Below wr.heap.size wr y1 := hwa.trans (hbl2.mono (by rw [Hwz.out]; omega))
        obtain ⟨p0, p1, p2, p3, p4, f0, f1, f2, f3, f4⟩ := box_facts hbp1
        -- the part laid into its box
        have hwy3 := below_set5 hwy (Nat.le_refl wr.heap.size) (.int .i64 k2) (.int .i64 m2) (str t2) (.slice Ak2 nk2 ck2) (.slice Ap2 np2 cp2)
        have hbp3 := set5 hbp1 (.int .i64 k2) (.int .i64 m2) (str t2) (.slice Ak2 nk2 ck2) (.slice Ap2 np2 cp2)
        have hv3 : VInS (((((y1.setCell ⟨wr.heap.size, 0, none⟩ (.int .i64 k2)).setCell ⟨wr.heap.size, 1, none⟩ (.int .i64 m2)).setCell ⟨wr.heap.size, 2, none⟩ (str t2)).setCell ⟨wr.heap.size, 3, none⟩ (.slice Ak2 nk2 ck2)).setCell ⟨wr.heap.size, 4, none⟩ (.slice Ap2 np2 cp2)) (newS (wr.alloc (.cells #[.int .i64 0, .int .i64 0, str [], .slice none 0 0, .slice none 0 0] 25)) y1) v2 [.int .i64 k2, .int .i64 m2, str t2, .slice Ak2 nk2 ck2, .slice Ap2 np2 cp2] :=
          VInS.kept (fun p hp => cell_set5 (by have := hp.1; rw [Hwz.out] at this; omega) _ _ _ _ _) _ _ hv2
        have hszy := size_set5 y1 wr.heap.size (.int .i64 k2) (.int .i64 m2) (str t2) (.slice Ak2 nk2 ck2) (.slice Ap2 np2 cp2)
        obtain ⟨⟨Akv, ckv, rfl⟩, ⟨Apv, cpv, rfl⟩⟩ := hown.forms
        have hbv1 := hbv.below hwy (by omega)
        have hbr1 := hbr.below hwy (by omega)
        obtain ⟨q0, q1, q2, q3, q4, r0, r1, r2, r3, r4⟩ := box_facts hbv1
        have hne1 : ¬ w.heap.size + 1 = wr.heap.size := by omega
        have hne2 : ¬ wr.heap.size = w.heap.size + 1 := by omega
        have hown3 := hown.below hwy3
        have hbes := hown.beside (w2 := y1) (by rw [w2_size]; omega)
        have hv4 := VInS.mono (S' := besides (w2 w) (((((y1.setCell ⟨wr.heap.size, 0, none⟩ (.int .i64 k2)).setCell ⟨wr.heap.size, 1, none⟩ (.int .i64 m2)).setCell ⟨wr.heap.size, 2, none⟩ (str t2)).setCell ⟨wr.heap.size, 3, none⟩ (.slice Ak2 nk2 ck2)).setCell ⟨wr.heap.size, 4, none⟩ (.slice Ap2 np2 cp2)) (.slice Akv _ ckv) (.slice Apv ps.length cpv)) (fun b hb => by
          have h1 := hbes b ⟨by have := hb.1; rw [Hwz.out] at this; omega, hb.2⟩
          exact ⟨⟨h1.1.1, by rw [hszy]; exact h1.1.2⟩, h1.2⟩) _ _ hv3
        have Hv4 := Lib.hid hv4
        have Hown3 := Lib.hid hown3
        have HB3 := Lib.hid (show (w2 w).heap.size ≤ (((((y1.setCell ⟨wr.heap.size, 0, none⟩ (.int .i64 k2)).setCell ⟨wr.heap.size, 1, none⟩ (.int .i64 m2)).setCell ⟨wr.heap.size, 2, none⟩ (str t2)).setCell ⟨wr.heap.size, 3, none⟩ (.slice Ak2 nk2 ck2)).setCell ⟨wr.heap.size, 4, none⟩ (.slice Ap2 np2 cp2)).heap.size by rw [hszy, w2_size]; omega)
        have Hbp3 := Lib.hid hbp3
        have hfar : ∀ {g' : Nat} {cs : Array Value}, g' ≠ wr.heap.size → Blk y1 g' 25 cs → Blk (((((y1.setCell ⟨wr.heap.size, 0, none⟩ (.int .i64 k2)).setCell ⟨wr.heap.size, 1, none⟩ (.int .i64 m2)).setCell ⟨wr.heap.size, 2, none⟩ (str t2)).setCell ⟨wr.heap.size, 3, none⟩ (.slice Ak2 nk2 ck2)).setCell ⟨wr.heap.size, 4, none⟩ (.slice Ap2 np2 cp2)) g' 25 cs := by
          intro g' cs hg h
          exact ((((h.far (p := ⟨wr.heap.size, 0, none⟩) hg _).far (p := ⟨wr.heap.size, 1, none⟩) hg _).far (p := ⟨wr.heap.size, 2, none⟩) hg _).far (p := ⟨wr.heap.size, 3, none⟩) hg _).far (p := ⟨wr.heap.size, 4, none⟩) hg _
        have Hbv3 := Lib.hid (hfar (by omega) hbv1)
        have Hbr3 := Lib.hid (hfar (by omega) hbr1)
        clear hfar
        have Hwy3 := Lib.hid hwy3
        have Hok2 := Lib.hid hok2
        have Hct2 := Lib.hid hct2
        have Hszy := Lib.hid hszy
        have hpl4 : ps.length + 1 ≤ 1048576 := by have := Hpl.out; omega
        clear hv2 hv3 hv4 hown3 hbp3 hwy3 hok2 hct2 hszy hbes hown hbp hwa
        go_wp2_with (at_builtin
                     go_loud (refine wpList_putO rfl _ _ rfl (w2 w) _ _ _ ps v2 _ (by rfl) Hown3.out Hv4.out _ rfl _ (by rfl) (by simp) hpl4 HB3.out ?_)
                     intro v4 y4 hown4 hbl4
                     rw [w2_size] at hbl4
                     have hbv4 := Hbv3.out.below hbl4 (by omega)
                     have hbr4 := Hbr3.out.below hbl4 (by omega)
                     obtain ⟨_, ⟨Ap4, cp4, hv4e⟩⟩ := hown4.forms
                     rw [hv4e] at hown4
                     rw [hv4e]
                     clear hv4e
                     obtain ⟨s0, s1, s2, s3, s4, t0, t1, t2', t3, t4⟩ := box_facts hbv4)
        go_roundg (m - (j + 1))
        case measure => have := Hgk.out; omega
        case rel =>
          have hbl4' : Below w.heap.size y1 y4 := (below_set5 (Below.refl w.heap.size y1) (by omega : w.heap.size ≤ wr.heap.size) (.int .i64 k2) (.int .i64 m2) (str t2) (.slice Ak2 nk2 ck2) (.slice Ap2 np2 cp2)).trans (hbl4.mono (by omega))
          have hbF : Below w.heap.size y1 (y4.setCell ⟨w.heap.size + 1, 4, none⟩ (.slice Ap4 (ps.length + 1) cp4)) := hbl4'.setCell (by simp) _
          have hwF := (hbl.trans (hwy.mono (by omega))).trans hbF
          have hszF : y1.heap.size ≤ (y4.setCell ⟨w.heap.size + 1, 4, none⟩ (.slice Ap4 (ps.length + 1) cp4)).heap.size := hbF.size
          have hpl1 : (ps ++ [v2]).length = ps.length + 1 := by simp
          rw [hpl1] at hown4
          refine ⟨j + 1, ps ++ [v2], A2, n2, c2, .slice Akv _ ckv, .slice Ap4 (ps.length + 1) cp4, by go_num, by omega, rfl, rfl, hI2.below (hbF.mono hB), by rw [hpl1, Hpl.out], hbr4.far (p := ⟨w.heap.size + 1, 4, none⟩) (by simp) _, hbv4.set_ 4 _, ?_, ?_, ?_, hwF, by omega⟩
          · exact hown4.only (g := w.heap.size + 1) (only_setCell (World.grownBy.refl _ _) (.inl rfl) _) (by rw [w2_size]; omega)
          · intro p hp
            rcases List.mem_append.1 hp with hp | hp
            · exact Hok.out p hp
            · rw [List.mem_singleton] at hp; subst hp; exact Hok2.out
          · rw [counts_snoc, Nat.succ_mul]
            have h1 := Hcn.out
            have h2 := Hct2.out
            omega
      · have hltI : ¬ (j : Int) < (m : Int) := by omega
        have hjm : j = m := by omega
        obtain ⟨⟨Akv, ckv, rfl⟩, ⟨Apv, cpv, rfl⟩⟩ := hown.forms
        obtain ⟨q0, q1, q2, q3, q4, r0, r1, r2, r3, r4⟩ := box_facts hbv
        obtain ⟨s0, s1, s2, s3, s4, t0, t1, t2', t3, t4⟩ := box_facts hbr
        have Hown := Lib.hid hown
        have hjb : decide ((j : Int) < (m : Int)) = false := by simp; omega
        have hjn : ¬ j < m := by omega
        clear hown hjm
        go_wp2_with fail
        refine (pk4 _).mono ?_
        rintro e y ⟨rfl, rfl⟩
        go_wp2_with fail
        refine ret_val (by rfl) (by rfl) (by rfl) (set5 hbr _ _ _ _ _) (by rfl) ?_
        have hval := Hown.out.value 6 (.inl rfl) (by simp) (by have := Hpl.out; omega) (by simp)
        have hbF := below_set5 hbl (Nat.le_refl w.heap.size) (.int .i64 6) (.int .i64 0) (str []) (.slice Akv ([] : List (List UInt8)).length ckv) (.slice Apv ps.length cpv)
        refine ⟨.mk 6 0 [] [] ps, _, A, n', c', rfl, ?_, ?_, ?_, hI.below ((below_set5 (Below.refl w.heap.size wr) (Nat.le_refl w.heap.size) _ _ _ _ _).mono hB), hbF⟩
        · refine VInS.mono (fun b hb => ⟨?_, ?_⟩) _ _ (VInS.kept (fun p hp => cell_set5 (by have := hp.1; rw [w2_size] at this; omega) _ _ _ _ _) _ _ hval)
          · have := hb.1; rw [w2_size] at this; omega
          · rw [size_set5]; exact hb.2
        · exact okAt_of (by omega) (alone_arr ps) fun d hd => faults_of fun p hp => Hok.out p hp (d + 1) (by omega)
        · have h1 := Hcn.out
          have h3 : j * cnt3 (deep - 1) ≤ 3 * cnt3 (deep - 1) := Nat.mul_le_mul_right _ (by omega)
          have h4 := cnt3_pred deep (by omega)
          simp [count]; omega
  · go_enter Tryz.func28, Tryz.ntmps28
    go_wp2_with fail
    refine (pk _).mono ?_
    rintro e y ⟨rfl, rfl⟩
    go_wp2_with fail
    go_loopg [0, 9] m (GenR deep B 7 m w)
    case atStart =>
      have hb2 := Blk.new (w.alloc (.cells #[.int .i64 0, .int .i64 0, str [], .slice none 0 0, .slice none 0 0] 25)) 25 #[.int .i64 7, .int .i64 0, str [], .slice none 0 0, .slice none 0 0]
      rw [Hw1.out] at hb2
      have hbb : Below w.heap.size w ((w.alloc (.cells #[.int .i64 0, .int .i64 0, str [], .slice none 0 0, .slice none 0 0] 25)).alloc (.cells #[.int .i64 7, .int .i64 0, str [], .slice none 0 0, .slice none 0 0] 25)) :=
        ((Below.refl _ _).alloc (Nat.le_refl _) _).alloc (by simp) _
      exact ⟨0, [], A1, n1, c1, _, _, rfl, by omega, by omega, rfl, hI1.below (hbb.mono hB), rfl, hB0.alloc _, hb2, ObjOwn.nil _ _, by simp, by simp [counts], hbb, by simp⟩
    case round =>
      obtain ⟨j, ps, A, n', c', kv, pv, rfl, hj, hgk, rfl, hI, hpl, hbr, hbv, hown, hok, hcn, hbl, hsz⟩ := hrel
      rw [if_pos rfl] at hown
      have Hgk := Lib.hid hgk
      have Hpl := Lib.hid hpl
      have Hok := Lib.hid hok
      have Hcn := Lib.hid hcn
      clear hgk hpl hok hcn
      by_cases hlt : j < m
      · have hltI : (j : Int) < (m : Int) := by omega
        go_wp2_with fail
        refine (pk4 _).mono ?_
        rintro e y ⟨rfl, rfl⟩
        go_wp2_with fail
        have hwa := (Below.refl wr.heap.size wr).alloc (Nat.le_refl _) (.cells #[.int .i64 0, .int .i64 0, str [], .slice none 0 0, .slice none 0 0] 25)
        have hbp := Blk.new wr 25 #[.int .i64 0, .int .i64 0, str [], .slice none 0 0, .slice none 0 0]
        have Hwz := Lib.hid (show (wr.alloc (.cells #[.int .i64 0, .int .i64 0, str [], .slice none 0 0, .slice none 0 0] 25)).heap.size = wr.heap.size + 1 by simp)
        refine (ih' A n' c' B _ (by simp; omega) (hI.below (hwa.mono (by omega)))).mono ?_
        rintro e y1 ⟨v2, cs2, A2, n2, c2, rfl, hv2, hok2, hct2, hI2, hbl2⟩
        obtain ⟨k2, m2, t2, Ak2, nk2, ck2, Ap2, np2, cp2, rfl⟩ := hv2.form
        have hz1 : wr.heap.size + 1 ≤ y1.heap.size := by have := hbl2.size; rw [Hwz.out] at this; exact this
        have hbp1 := hbp.below hbl2 (by rw [Hwz.out]; omega)
        have hwy : Below wr.heap.size wr y1 := hwa.trans (hbl2.mono (by rw [Hwz.out]; omega))
        obtain ⟨p0, p1, p2, p3, p4, f0, f1, f2, f3, f4⟩ := box_facts hbp1
        -- the part laid into its box
        have hwy3 := below_set5 hwy (Nat.le_refl wr.heap.size) (.int .i64 k2) (.int .i64 m2) (str t2) (.slice Ak2 nk2 ck2) (.slice Ap2 np2 cp2)
        have hbp3 := set5 hbp1 (.int .i64 k2) (.int .i64 m2) (str t2) (.slice Ak2 nk2 ck2) (.slice Ap2 np2 cp2)
        have hv3 : VInS (((((y1.setCell ⟨wr.heap.size, 0, none⟩ (.int .i64 k2)).setCell ⟨wr.heap.size, 1, none⟩ (.int .i64 m2)).setCell ⟨wr.heap.size, 2, none⟩ (str t2)).setCell ⟨wr.heap.size, 3, none⟩ (.slice Ak2 nk2 ck2)).setCell ⟨wr.heap.size, 4, none⟩ (.slice Ap2 np2 cp2)) (newS (wr.alloc (.cells #[.int .i64 0, .int .i64 0, str [], .slice none 0 0, .slice none 0 0] 25)) y1) v2 [.int .i64 k2, .int .i64 m2, str t2, .slice Ak2 nk2 ck2, .slice Ap2 np2 cp2] :=
          VInS.kept (fun p hp => cell_set5 (by have := hp.1; rw [Hwz.out] at this; omega) _ _ _ _ _) _ _ hv2
        have hszy := size_set5 y1 wr.heap.size (.int .i64 k2) (.int .i64 m2) (str t2) (.slice Ak2 nk2 ck2) (.slice Ap2 np2 cp2)
        obtain ⟨⟨Akv, ckv, rfl⟩, ⟨Apv, cpv, rfl⟩⟩ := hown.forms
        have hbv1 := hbv.below hwy (by omega)
        have hbr1 := hbr.below hwy (by omega)
        obtain ⟨q0, q1, q2, q3, q4, r0, r1, r2, r3, r4⟩ := box_facts hbv1
        have hne1 : ¬ w.heap.size + 1 = wr.heap.size := by omega
        have hne2 : ¬ wr.heap.size = w.heap.size + 1 := by omega
        have hown3 := hown.below hwy3
        have hbes := hown.beside (w2 := y1) (by rw [w2_size]; omega)
        have hv4 := VInS.mono (S' := besides (w2 w) (((((y1.setCell ⟨wr.heap.size, 0, none⟩ (.int .i64 k2)).setCell ⟨wr.heap.size, 1, none⟩ (.int .i64 m2)).setCell ⟨wr.heap.size, 2, none⟩ (str t2)).setCell ⟨wr.heap.size, 3, none⟩ (.slice Ak2 nk2 ck2)).setCell ⟨wr.heap.size, 4, none⟩ (.slice Ap2 np2 cp2)) (.slice Akv _ ckv) (.slice Apv ps.length cpv)) (fun b hb => by
          have h1 := hbes b ⟨by have := hb.1; rw [Hwz.out] at this; omega, hb.2⟩
          exact ⟨⟨h1.1.1, by rw [hszy]; exact h1.1.2⟩, h1.2⟩) _ _ hv3
        have Hv4 := Lib.hid hv4
        have Hown3 := Lib.hid hown3
        have HB3 := Lib.hid (show (w2 w).heap.size ≤ (((((y1.setCell ⟨wr.heap.size, 0, none⟩ (.int .i64 k2)).setCell ⟨wr.heap.size, 1, none⟩ (.int .i64 m2)).setCell ⟨wr.heap.size, 2, none⟩ (str t2)).setCell ⟨wr.heap.size, 3, none⟩ (.slice Ak2 nk2 ck2)).setCell ⟨wr.heap.size, 4, none⟩ (.slice Ap2 np2 cp2)).heap.size by rw [hszy, w2_size]; omega)
        have Hbp3 := Lib.hid hbp3
        have hfar : ∀ {g' : Nat} {cs : Array Value}, g' ≠ wr.heap.size → Blk y1 g' 25 cs → Blk (((((y1.setCell ⟨wr.heap.size, 0, none⟩ (.int .i64 k2)).setCell ⟨wr.heap.size, 1, none⟩ (.int .i64 m2)).setCell ⟨wr.heap.size, 2, none⟩ (str t2)).setCell ⟨wr.heap.size, 3, none⟩ (.slice Ak2 nk2 ck2)).setCell ⟨wr.heap.size, 4, none⟩ (.slice Ap2 np2 cp2)) g' 25 cs := by
          intro g' cs hg h
          exact ((((h.far (p := ⟨wr.heap.size, 0, none⟩) hg _).far (p := ⟨wr.heap.size, 1, none⟩) hg _).far (p := ⟨wr.heap.size, 2, none⟩) hg _).far (p := ⟨wr.heap.size, 3, none⟩) hg _).far (p := ⟨wr.heap.size, 4, none⟩) hg _
        have Hbv3 := Lib.hid (hfar (by omega) hbv1)
        have Hbr3 := Lib.hid (hfar (by omega) hbr1)
        clear hfar
        have Hwy3 := Lib.hid hwy3
        have Hok2 := Lib.hid hok2
        have Hct2 := Lib.hid hct2
        have Hszy := Lib.hid hszy
        have hpl4 : ps.length + 1 ≤ 1048576 := by have := Hpl.out; omega
        clear hv2 hv3 hv4 hown3 hbp3 hwy3 hok2 hct2 hszy hbes hown hbp hwa
        go_wp2_with (at_builtin
                     go_loud (refine wpList_putO rfl _ _ rfl (w2 w) _ _ _ ps v2 _ (by rfl) Hown3.out Hv4.out _ rfl _ (by rfl) (by simp) hpl4 HB3.out ?_)
                     intro v4 y4 hown4 hbl4
                     rw [w2_size] at hbl4
                     have hbv4 := Hbv3.out.below hbl4 (by omega)
                     have hbr4 := Hbr3.out.below hbl4 (by omega)
                     obtain ⟨_, ⟨Ap4, cp4, hv4e⟩⟩ := hown4.forms
                     rw [hv4e] at hown4
                     rw [hv4e]
                     clear hv4e
                     obtain ⟨s0, s1, s2, s3, s4, t0, t1, t2', t3, t4⟩ := box_facts hbv4)
        -- the key
        have hbl4' : Below w.heap.size y1 y4 := (below_set5 (Below.refl w.heap.size y1) (by omega : w.heap.size ≤ wr.heap.size) (.int .i64 k2) (.int .i64 m2) (str t2) (.slice Ak2 nk2 ck2) (.slice Ap2 np2 cp2)).trans (hbl4.mono (by omega))
        have hb5 : Below w.heap.size y1 (y4.setCell ⟨w.heap.size + 1, 4, none⟩ (.slice Ap4 (ps.length + 1) cp4)) := hbl4'.setCell (by simp) _
        have hpl1 : (ps ++ [v2]).length = ps.length + 1 := by simp
        rw [hpl1] at hown4
        have hown5 := hown4.only (g := w.heap.size + 1) (only_setCell (World.grownBy.refl _ _) (p := ⟨w.heap.size + 1, 4, none⟩) (.inl rfl) (.slice Ap4 (ps.length + 1) cp4)) (by rw [w2_size]; omega)
        have hbr5 := hbr4.far (p := ⟨w.heap.size + 1, 4, none⟩) (by simp) (.slice Ap4 (ps.length + 1) cp4)
        have hbv5 := hbv4.set_ 4 (.slice Ap4 (ps.length + 1) cp4)
        have Hpl1 := Lib.hid hpl1
        clear s0 s1 s2 s3 s4 t0 t1 t2' t3 t4 hown4 hbl4' hpl1
        clear p0 p1 p2 p3 p4 f0 f1 f2 f3 f4 q0 q1 q2 q3 q4 r0 r1 r2 r3 r4 hbr4 hbv4 hbl4 hbp1 hbv1 hbr1
        clear Hown3 Hv4 HB3 Hbp3 Hwy3 Hszy Hbv3 Hbr3
        generalize y4.setCell ⟨w.heap.size + 1, 4, none⟩ (.slice Ap4 (ps.length + 1) cp4) = y5 at *
        have hbv5' : Blk y5 (w.heap.size + 1) 25 #[.int .i64 7, .int .i64 0, str [], .slice Akv (keyL.take j).length ckv, .slice Ap4 (ps.length + 1) cp4] := hbv5
        clear hbv5
        have hz5 : y1.heap.size ≤ y5.heap.size := hb5.size
        have hz52 : w.heap.size + 2 ≤ y5.heap.size := by omega
        have hz53 : w.heap.size + 1 < y5.heap.size := by omega
        have hz54 : w.heap.size + 1 < y5.heap.size + 1 := by omega
        rcases (by omega : j = 0 ∨ j = 1 ∨ j = 2) with rfl | rfl | rfl
        · have hbv6' : Blk y5 (w.heap.size + 1) 25 #[.int .i64 7, .int .i64 0, str [], .slice Akv 0 ckv, .slice Ap4 (ps.length + 1) cp4] := hbv5'
          clear hbv5'
          have hbv5' := hbv6'
          clear hbv6'
          obtain ⟨q0, q1, q2, q3, q4, r0, r1, r2, r3, r4⟩ := box_facts hbv5'
          have hownW : ObjOwn (w2 w) (((y5.alloc (.cells #[str [97], str [98, 34], str [107, 101, 121], str [122]] 9)).alloc (.cells #[str [97]] 9)).drew) (.slice Akv 0 ckv) (.slice Ap4 (ps.length + 1) cp4) (keyL.take 0) (ps ++ [v2]) :=
            hown5.below (((Below.refl _ _).alloc (Nat.le_refl _) _).alloc (by simp) _).drew
          have HownW := Lib.hid hownW
          have HBW := Lib.hid (show (w2 w).heap.size ≤ (((y5.alloc (.cells #[str [97], str [98, 34], str [107, 101, 121], str [122]] 9)).alloc (.cells #[str [97]] 9)).drew).heap.size by rw [w2_size]; simp; omega)
          have hcW : (((y5.alloc (.cells #[str [97], str [98, 34], str [107, 101, 121], str [122]] 9)).alloc (.cells #[str [97]] 9)).drew).cell? ((⟨y5.heap.size + 1, 0, none⟩ : Addr).add 0) = some (str [97]) := by
            have h1 : ((⟨y5.heap.size + 1, 0, none⟩ : Addr).add 0) = ⟨(y5.alloc (.cells #[str [97], str [98, 34], str [107, 101, 121], str [122]] 9)).heap.size, 0, none⟩ := by rw [plus_addr]; simp
            rw [h1]
            exact (Blk.new (y5.alloc (.cells #[str [97], str [98, 34], str [107, 101, 121], str [122]] 9)) 9 _).cell 0
          have HcW := Lib.hid hcW
          have Hb2 := Lib.hid (Blk.drew ((hbv5'.alloc (.cells #[str [97], str [98, 34], str [107, 101, 121], str [122]] 9)).alloc (.cells #[str [97]] 9)))
          have Hb1 := Lib.hid (Blk.drew ((hbr5.alloc (.cells #[str [97], str [98, 34], str [107, 101, 121], str [122]] 9)).alloc (.cells #[str [97]] 9)))
          have HbW := Lib.hid (show Below w.heap.size y5 (((y5.alloc (.cells #[str [97], str [98, 34], str [107, 101, 121], str [122]] 9)).alloc (.cells #[str [97]] 9)).drew) from (((Below.refl _ _).alloc (by omega) _).alloc (by simp; omega) _).drew)
          clear hownW hcW
          go_region_law (refine step_putK rfl _ _ rfl (w2 w) _ _ _ (ps ++ [v2]) [97] (by rfl) HownW.out ⟨y5.heap.size + 1, 0, none⟩ 1 (by rfl) HcW.out (by simp [keyL]) HBW.out ?_; intro v6 y6 hown6 hbl6; rw [w2_size] at hbl6; obtain ⟨⟨Ak6, ck6, hv6e⟩, _⟩ := hown6.forms; rw [hv6e] at hown6; rw [hv6e]; clear hv6e; have hbv6 := Hb2.out.below hbl6 (by omega); have hbr6 := Hb1.out.below hbl6 (by omega); obtain ⟨u0', u1', u2', u3', u4', z0', z1', z2', z3', z4'⟩ := box_facts hbv6)
          all_goals
            go_wp2_with fail
            go_roundg (m - (0 + 1))
            case measure => have := Hgk.out; omega
            case rel =>
              have hb6 : Below w.heap.size y5 y6 := HbW.out.trans (hbl6.mono (by omega))
              have hb7 := hb6.setCell (p := ⟨w.heap.size + 1, 3, none⟩) (by simp) (.slice Ak6 1 ck6)
              have hbF := hb5.trans hb7
              have hszF := hbF.size
              refine ⟨0 + 1, ps ++ [v2], A2, n2, c2, .slice Ak6 1 ck6, .slice Ap4 (ps.length + 1) cp4, by go_num, by omega, rfl, rfl, hI2.below (hbF.mono hB), by rw [Hpl1.out, Hpl.out], hbr6.far (p := ⟨w.heap.size + 1, 3, none⟩) (by simp) _, hbv6.set_ 3 _, ?_, ?_, ?_, (hbl.trans (hwy.mono (by omega))).trans hbF, by omega⟩
              · rw [if_pos rfl]
                exact hown6.only (g := w.heap.size + 1) (only_setCell (World.grownBy.refl _ _) (.inl rfl) _) (by rw [w2_size]; omega)
              · intro p hp
                rcases List.mem_append.1 hp with hp | hp
                · exact Hok.out p hp
                · rw [List.mem_singleton] at hp; subst hp; exact Hok2.out
              · rw [counts_snoc]
                have h1 := Hcn.out
                have h2 := Hct2.out
                omega
        · have hbv6' : Blk y5 (w.heap.size + 1) 25 #[.int .i64 7, .int .i64 0, str [], .slice Akv 1 ckv, .slice Ap4 (ps.length + 1) cp4] := hbv5'
          clear hbv5'
          have hbv5' := hbv6'
          clear hbv6'
          obtain ⟨q0, q1, q2, q3, q4, r0, r1, r2, r3, r4⟩ := box_facts hbv5'
          have hownW : ObjOwn (w2 w) (((y5.alloc (.cells #[str [97], str [98, 34], str [107, 101, 121], str [122]] 9)).alloc (.cells #[str [98, 34]] 9)).drew) (.slice Akv 1 ckv) (.slice Ap4 (ps.length + 1) cp4) (keyL.take 1) (ps ++ [v2]) :=
            hown5.below (((Below.refl _ _).alloc (Nat.le_refl _) _).alloc (by simp) _).drew
          have HownW := Lib.hid hownW
          have HBW := Lib.hid (show (w2 w).heap.size ≤ (((y5.alloc (.cells #[str [97], str [98, 34], str [107, 101, 121], str [122]] 9)).alloc (.cells #[str [98, 34]] 9)).drew).heap.size by rw [w2_size]; simp; omega)
          have hcW : (((y5.alloc (.cells #[str [97], str [98, 34], str [107, 101, 121], str [122]] 9)).alloc (.cells #[str [98, 34]] 9)).drew).cell? ((⟨y5.heap.size + 1, 0, none⟩ : Addr).add 0) = some (str [98, 34]) := by
            have h1 : ((⟨y5.heap.size + 1, 0, none⟩ : Addr).add 0) = ⟨(y5.alloc (.cells #[str [97], str [98, 34], str [107, 101, 121], str [122]] 9)).heap.size, 0, none⟩ := by rw [plus_addr]; simp
            rw [h1]
            exact (Blk.new (y5.alloc (.cells #[str [97], str [98, 34], str [107, 101, 121], str [122]] 9)) 9 _).cell 0
          have HcW := Lib.hid hcW
          have Hb2 := Lib.hid (Blk.drew ((hbv5'.alloc (.cells #[str [97], str [98, 34], str [107, 101, 121], str [122]] 9)).alloc (.cells #[str [98, 34]] 9)))
          have Hb1 := Lib.hid (Blk.drew ((hbr5.alloc (.cells #[str [97], str [98, 34], str [107, 101, 121], str [122]] 9)).alloc (.cells #[str [98, 34]] 9)))
          have HbW := Lib.hid (show Below w.heap.size y5 (((y5.alloc (.cells #[str [97], str [98, 34], str [107, 101, 121], str [122]] 9)).alloc (.cells #[str [98, 34]] 9)).drew) from (((Below.refl _ _).alloc (by omega) _).alloc (by simp; omega) _).drew)
          clear hownW hcW
          go_region_law (refine step_putK rfl _ _ rfl (w2 w) _ _ _ (ps ++ [v2]) [98, 34] (by rfl) HownW.out ⟨y5.heap.size + 1, 0, none⟩ 1 (by rfl) HcW.out (by simp [keyL]) HBW.out ?_; intro v6 y6 hown6 hbl6; rw [w2_size] at hbl6; obtain ⟨⟨Ak6, ck6, hv6q⟩, _⟩ := hown6.forms; have hv6e : v6 = .slice Ak6 2 ck6 := hv6q; clear hv6q; rw [hv6e] at hown6; rw [hv6e]; clear hv6e; have hbv6 := Hb2.out.below hbl6 (by omega); have hbr6 := Hb1.out.below hbl6 (by omega); obtain ⟨u0', u1', u2', u3', u4', z0', z1', z2', z3', z4'⟩ := box_facts hbv6)
          all_goals
            go_wp2_with fail
            go_roundg (m - (1 + 1))
            case measure => have := Hgk.out; omega
            case rel =>
              have hb6 : Below w.heap.size y5 y6 := HbW.out.trans (hbl6.mono (by omega))
              have hb7 := hb6.setCell (p := ⟨w.heap.size + 1, 3, none⟩) (by simp) (.slice Ak6 2 ck6)
              have hbF := hb5.trans hb7
              have hszF := hbF.size
              refine ⟨1 + 1, ps ++ [v2], A2, n2, c2, .slice Ak6 2 ck6, .slice Ap4 (ps.length + 1) cp4, by go_num, by omega, rfl, rfl, hI2.below (hbF.mono hB), by rw [Hpl1.out, Hpl.out], hbr6.far (p := ⟨w.heap.size + 1, 3, none⟩) (by simp) _, hbv6.set_ 3 _, ?_, ?_, ?_, (hbl.trans (hwy.mono (by omega))).trans hbF, by omega⟩
              · rw [if_pos rfl]
                exact hown6.only (g := w.heap.size + 1) (only_setCell (World.grownBy.refl _ _) (.inl rfl) _) (by rw [w2_size]; omega)
              · intro p hp
                rcases List.mem_append.1 hp with hp | hp
                · exact Hok.out p hp
                · rw [List.mem_singleton] at hp; subst hp; exact Hok2.out
              · rw [counts_snoc]
                have h1 := Hcn.out
                have h2 := Hct2.out
                omega
        · have hbv6' : Blk y5 (w.heap.size + 1) 25 #[.int .i64 7, .int .i64 0, str [], .slice Akv 2 ckv, .slice Ap4 (ps.length + 1) cp4] := hbv5'
          clear hbv5'
          have hbv5' := hbv6'
          clear hbv6'
          obtain ⟨q0, q1, q2, q3, q4, r0, r1, r2, r3, r4⟩ := box_facts hbv5'
          have hownW : ObjOwn (w2 w) (((y5.alloc (.cells #[str [97], str [98, 34], str [107, 101, 121], str [122]] 9)).alloc (.cells #[str [107, 101, 121]] 9)).drew) (.slice Akv 2 ckv) (.slice Ap4 (ps.length + 1) cp4) (keyL.take 2) (ps ++ [v2]) :=
            hown5.below (((Below.refl _ _).alloc (Nat.le_refl _) _).alloc (by simp) _).drew
          have HownW := Lib.hid hownW
          have HBW := Lib.hid (show (w2 w).heap.size ≤ (((y5.alloc (.cells #[str [97], str [98, 34], str [107, 101, 121], str [122]] 9)).alloc (.cells #[str [107, 101, 121]] 9)).drew).heap.size by rw [w2_size]; simp; omega)
          have hcW : (((y5.alloc (.cells #[str [97], str [98, 34], str [107, 101, 121], str [122]] 9)).alloc (.cells #[str [107, 101, 121]] 9)).drew).cell? ((⟨y5.heap.size + 1, 0, none⟩ : Addr).add 0) = some (str [107, 101, 121]) := by
            have h1 : ((⟨y5.heap.size + 1, 0, none⟩ : Addr).add 0) = ⟨(y5.alloc (.cells #[str [97], str [98, 34], str [107, 101, 121], str [122]] 9)).heap.size, 0, none⟩ := by rw [plus_addr]; simp
            rw [h1]
            exact (Blk.new (y5.alloc (.cells #[str [97], str [98, 34], str [107, 101, 121], str [122]] 9)) 9 _).cell 0
          have HcW := Lib.hid hcW
          have Hb2 := Lib.hid (Blk.drew ((hbv5'.alloc (.cells #[str [97], str [98, 34], str [107, 101, 121], str [122]] 9)).alloc (.cells #[str [107, 101, 121]] 9)))
          have Hb1 := Lib.hid (Blk.drew ((hbr5.alloc (.cells #[str [97], str [98, 34], str [107, 101, 121], str [122]] 9)).alloc (.cells #[str [107, 101, 121]] 9)))
          have HbW := Lib.hid (show Below w.heap.size y5 (((y5.alloc (.cells #[str [97], str [98, 34], str [107, 101, 121], str [122]] 9)).alloc (.cells #[str [107, 101, 121]] 9)).drew) from (((Below.refl _ _).alloc (by omega) _).alloc (by simp; omega) _).drew)
          clear hownW hcW
          go_region_law (refine step_putK rfl _ _ rfl (w2 w) _ _ _ (ps ++ [v2]) [107, 101, 121] (by rfl) HownW.out ⟨y5.heap.size + 1, 0, none⟩ 1 (by rfl) HcW.out (by simp [keyL]) HBW.out ?_; intro v6 y6 hown6 hbl6; rw [w2_size] at hbl6; obtain ⟨⟨Ak6, ck6, hv6q⟩, _⟩ := hown6.forms; have hv6e : v6 = .slice Ak6 3 ck6 := hv6q; clear hv6q; rw [hv6e] at hown6; rw [hv6e]; clear hv6e; have hbv6 := Hb2.out.below hbl6 (by omega); have hbr6 := Hb1.out.below hbl6 (by omega); obtain ⟨u0', u1', u2', u3', u4', z0', z1', z2', z3', z4'⟩ := box_facts hbv6)
          all_goals
            go_wp2_with fail
            go_roundg (m - (2 + 1))
            case measure => have := Hgk.out; omega
            case rel =>
              have hb6 : Below w.heap.size y5 y6 := HbW.out.trans (hbl6.mono (by omega))
              have hb7 := hb6.setCell (p := ⟨w.heap.size + 1, 3, none⟩) (by simp) (.slice Ak6 3 ck6)
              have hbF := hb5.trans hb7
              have hszF := hbF.size
              refine ⟨2 + 1, ps ++ [v2], A2, n2, c2, .slice Ak6 3 ck6, .slice Ap4 (ps.length + 1) cp4, by go_num, by omega, rfl, rfl, hI2.below (hbF.mono hB), by rw [Hpl1.out, Hpl.out], hbr6.far (p := ⟨w.heap.size + 1, 3, none⟩) (by simp) _, hbv6.set_ 3 _, ?_, ?_, ?_, (hbl.trans (hwy.mono (by omega))).trans hbF, by omega⟩
              · rw [if_pos rfl]
                exact hown6.only (g := w.heap.size + 1) (only_setCell (World.grownBy.refl _ _) (.inl rfl) _) (by rw [w2_size]; omega)
              · intro p hp
                rcases List.mem_append.1 hp with hp | hp
                · exact Hok.out p hp
                · rw [List.mem_singleton] at hp; subst hp; exact Hok2.out
              · rw [counts_snoc]
                have h1 := Hcn.out
                have h2 := Hct2.out
                omega
      · have hltI : ¬ (j : Int) < (m : Int) := by omega
        have hjm : j = m := by omega
        obtain ⟨⟨Akv, ckv, rfl⟩, ⟨Apv, cpv, rfl⟩⟩ := hown.forms
        generalize hLL : (keyL.take j).length = L at hown hbv
        have HL := Lib.hid hLL
        clear hLL
        obtain ⟨q0, q1, q2, q3, q4, r0, r1, r2, r3, r4⟩ := box_facts hbv
        obtain ⟨s0, s1, s2, s3, s4, t0, t1, t2', t3, t4⟩ := box_facts hbr
        have Hown := Lib.hid hown
        have hjb : decide ((j : Int) < (m : Int)) = false := by simp; omega
        have hjn : ¬ j < m := by omega
        clear hown hjm
        go_wp2_with fail
        refine (pk4 _).mono ?_
        rintro e y ⟨rfl, rfl⟩
        go_wp2_with fail
        have hkl1 : (keyL.take j).length ≤ 1048576 := by simp [keyL]; omega
        have hkl2 : ∀ s ∈ (keyL.take j), s.length ≤ 1048576 := by
          intro s hs
          exact keyL_len s (List.mem_of_mem_take hs)
        refine ret_val (by rfl) (by rfl) (by rfl) (set5 hbr _ _ _ _ _) (by rfl) ?_
        have hown' := Hown.out
        rw [← HL.out] at hown'
        have hval := hown'.value 7 (.inr rfl) hkl1 (by have := Hpl.out; omega) hkl2
        rw [HL.out] at hval
        have hbF := below_set5 hbl (Nat.le_refl w.heap.size) (.int .i64 7) (.int .i64 0) (str []) (.slice Akv L ckv) (.slice Apv ps.length cpv)
        refine ⟨.mk 7 0 [] (keyL.take j) ps, _, A, n', c', rfl, ?_, ?_, ?_, hI.below ((below_set5 (Below.refl w.heap.size wr) (Nat.le_refl w.heap.size) _ _ _ _ _).mono hB), hbF⟩
        · refine VInS.mono (fun b hb => ⟨?_, ?_⟩) _ _ (VInS.kept (fun p hp => cell_set5 (by have := hp.1; rw [w2_size] at this; omega) _ _ _ _ _) _ _ hval)
          · have := hb.1; rw [w2_size] at this; omega
          · rw [size_set5]; exact hb.2
        · exact okAt_of (by omega) (alone_obj _ ps (by have := Hpl.out; simp [keyL]; omega) (by simpa using keyL_incr j)) fun d hd => faults_of fun p hp => Hok.out p hp (d + 1) (by omega)
        · have h1 := Hcn.out
          have h3 : j * cnt3 (deep - 1) ≤ 3 * cnt3 (deep - 1) := Nat.mul_le_mul_right _ (by omega)
          have h4 := cnt3_pred deep (by omega)
          simp [count]; omega
end Go.Proofs.YthkbeliplibiaaaGreatDoor
