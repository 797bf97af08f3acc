/- The disk: the document's own function for it (what is synced and what is not, apart). -/
import Derived.Test.YthkbeliplibiaaaDkRun
import Derived.Test.YthkbeliplibiaaaRgT
import Derived.Test.YthkbeliplibiaaaRgA
namespace Go.Proofs.Ythkbeliplibiaaa
set_option linter.unusedVariables false
set_option linter.unusedSimpArgs false
open Go.RowKit

/-- The loop of the reference: k moves are done; the codes are a row of its own, the two parts are slices of its own. -/
def RefR (ms : List Mv) (w : World) (gk : Nat) (v sv ov i : Value) (wr : World) : Prop :=
  ∃ (k : Nat) (A : Option Addr) (c : Nat) (As : Option Addr) (cs : Nat) (Ao : Option Addr) (co : Nat), v = .slice A k c ∧ sv = .slice As (safeOf (plays0 (ms.take k)).2).length cs ∧ ov = .slice Ao (openOf (plays0 (ms.take k)).2).length co ∧ i = .int .i64 (k : Int) ∧ k ≤ ms.length ∧ gk = ms.length - k ∧
    wr.ownsRow w.heap.size 25 1 v k ((plays0 (ms.take k)).1.map (Value.int .i64)) ∧
    wr.ownsRow w.heap.size 5 1 sv (safeOf (plays0 (ms.take k)).2).length ((safeOf (plays0 (ms.take k)).2).map bv) ∧
    wr.ownsRow w.heap.size 5 1 ov (openOf (plays0 (ms.take k)).2).length ((openOf (plays0 (ms.take k)).2).map bv) ∧ Below w.heap.size w wr
def RefPost (ms : List Mv) (w : World) (e : Ending) (w' : World) : Prop :=
  ∃ (A : Option Addr) (c : Nat) (As : Option Addr) (cs : Nat) (Ao : Option Addr) (co : Nat), e = .returned (.tuple #[.slice A ms.length c, .slice As (safeOf (plays0 ms).2).length cs, .slice Ao (openOf (plays0 ms).2).length co, .int .i64 0]) ∧
    w'.ownsRow w.heap.size 25 1 (.slice A ms.length c) ms.length ((plays0 ms).1.map (Value.int .i64)) ∧
    w'.ownsRow w.heap.size 5 1 (.slice As (safeOf (plays0 ms).2).length cs) (safeOf (plays0 ms).2).length ((safeOf (plays0 ms).2).map bv) ∧
    w'.ownsRow w.heap.size 5 1 (.slice Ao (openOf (plays0 ms).2).length co) (openOf (plays0 ms).2).length ((openOf (plays0 ms).2).map bv) ∧ Below w.heap.size w w'
theorem own_lower {w : World} {B B' e size n : Nat} {v : Value} {xs : List Value} (h : w.ownsRow B' e size v n xs) (hB : B ≤ B') : w.ownsRow B e size v n xs := by
  refine ⟨h.1, ?_⟩
  rcases h.2 with hn | ⟨g, cap, cur, hv, hb, hr⟩
  · exact .inl hn
  · exact .inr ⟨g, cap, cur, hv, Nat.le_trans hB hb, hr⟩
theorem wpList_run {P : Program} {W w' : World} {ops : Array Oper} {rest : List Oper} {o : Oper} {a : Act} {Q : Exit → Act → World → Prop} {v' : Value} (hgd : o.guard = none) (s x : Operand) (t : TypeId)
    (ho : o.op = .call { callee := .builtin .append, args := #[s, x], argTypes := #[t, t] }) (vs vx : Value) (hs : a.eval s = vs) (hx : a.eval x = vx)
    (hrun : (Builtin.append_ #[t, t] o.type #[vs, vx]).run P W = .ok v' w') (h : wpList P ops Q rest (a.put o.dst v') w') : wpList P ops Q (o :: rest) a W := by
  refine wpList_plain hgd fun K hK => ?_
  unfold Oper.wp
  simp [execOp, ho, resolve, invoke, builtin, hs, hx, hrun, Result.andThen]
  exact hK _ _ h
theorem ret_four {fn : Func} {R : Ending → World → Prop} {a : Act} {W : World} {s1 s2 s3 s4 : Tmp} {v1 v2 v3 v4 : Value} (hf : fn.results = #[.tmp s1, .tmp s2, .tmp s3, .tmp s4])
    (h1 : a.tmps.getD s1 undef = v1) (h2 : a.tmps.getD s2 undef = v2) (h3 : a.tmps.getD s3 undef = v3) (h4 : a.tmps.getD s4 undef = v4) (hd : a.defers = []) (hR : R (.returned (.tuple #[v1, v2, v3, v4])) W) : bodyPost Try.prog fn R .ret a W := by
  refine bodyPost_ret ?_ hd hR
  simp only [Array.getD_eq_getD_getElem?] at h1 h2 h3 h4
  simp [results, hf, h1, h2, h3, h4, go_sem]
theorem ref_long (A : Option Addr) (n c : Nat) (w : World) (hn : ¬ n ≤ 100) :
    Calls Try.prog 11 #[.slice A n c] w fun e w' => e = .returned (.tuple #[.slice none 0 0, .slice none 0 0, .slice none 0 0, .int .i64 1]) ∧ w' = w := by
  have h1 : (100 : Int) < (n : Int) := by omega
  clear hn
  go_enter Try.func11, Try.ntmps11
  go_wp2_with fail
  refine ret_four rfl rfl rfl rfl rfl rfl ?_
  exact ⟨rfl, rfl⟩
set_option maxRecDepth 100000 in
set_option maxHeartbeats 4000000 in
theorem ref_any (A : Option Addr) (n c B : Nat) (ms : List Mv) (w : World) (hl : MvsIn w B A n c ms) (hB : B ≤ w.heap.size) (hn : n ≤ 100) :
    Calls Try.prog 11 #[.slice A n c] w (RefPost ms w) := by
  have hms := hl.1
  have Hl := Lib.hid hl
  obtain ⟨i1, hi1, hy0, hy1, hy2⟩ := info_parts info_errno
  obtain ⟨i0, hi0, hz0, hz1, hz2⟩ := info_parts info_u8
  have h1 : ¬ (100 : Int) < (n : Int) := by omega
  have Hst := Lib.hid (show RefR ms w n (.slice none 0 0) (.slice none 0 0) (.slice none 0 0) (.int .i64 0) w from
    ⟨0, none, 0, none, 0, none, 0, rfl, rfl, rfl, rfl, by omega, by omega, World.ownsRow_nil _ _ _ _, World.ownsRow_nil _ _ _ _, World.ownsRow_nil _ _ _ _, Below.refl _ _⟩)
  clear hl
  go_enter Try.func11, Try.ntmps11
  go_wp2_with fail
  go_loopg [6, 7, 8, 18] n (RefR ms w)
  case atStart => exact Hst.out
  case round =>
    clear Hst h1
    obtain ⟨k, Ac, cc, As, cs, Ao, co, rfl, rfl, rfl, rfl, hk, hgk, hrc, hrs, hro, hbe⟩ := hrel
    by_cases hlt : k < ms.length
    · obtain ⟨b, off, Ad, cd, rfl, hbB, hmi, c0, c1, c2⟩ := (Hl.out.below (hbe.mono hB)).at_ hlt
      have hmlt : (k : Int) < (n : Int) := by omega
      have HT := Lib.hid (plays0_take hlt)
      have hok := plays0_ok (ms.take k)
      have hsz := hbe.size
      have hbw : b < wr.heap.size := by omega
      generalize hq : ms[k] = mk at *
      generalize plays0 (ms.take k) = pl at *
      obtain ⟨cds, st⟩ := pl
      simp only at HT hok hrc hrs hro ⊢
      have hSl := safe_len hok
      have hOl := open_len st
      have hSO := safe_open st
      obtain ⟨S, hS⟩ : ∃ S, safeOf st = S := ⟨_, rfl⟩
      obtain ⟨O, hO⟩ : ∃ O, openOf st = O := ⟨_, rfl⟩
      rw [hS] at hSl hSO hrs ⊢
      rw [hO] at hOl hSO hro ⊢
      have hS12 : S.length ≤ 1200 := by have := hok.1; have := hok.2; omega
      have hO12 : O.length ≤ 1200 := by have := hok.2; omega
      have hsum : S.length + O.length = st.1.length := by have := hok.1; omega
      have Hsum := Lib.hid hsum
      have HSl := Lib.hid hSl
      have HSO := Lib.hid hSO
      have HS := Lib.hid hS
      have HO := Lib.hid hO
      have Hok := Lib.hid hok
      have Hgk := Lib.hid hgk
      have hdl : mk.data.length ≤ 1048576 := by obtain ⟨A7, c7, _, h7, _⟩ := hmi; exact h7
      have hnb : -9223372036854775808 ≤ mk.n ∧ mk.n ≤ 9223372036854775807 := by obtain ⟨A7, c7, _, _, _, _, _, h7, _⟩ := hmi; exact h7
      have hdd : (Ad = none → cd = 0) ∧ Holds wr B 1 Ad mk.data.length (mk.data.map bv) := by
        obtain ⟨A7, c7, he, _, _, h9, _, _, h8⟩ := hmi
        simp only [List.cons.injEq, Value.slice.injEq, true_and, and_true] at he
        obtain ⟨rfl, rfl⟩ := he
        exact ⟨h9, h8⟩
      have hAd := hdd.1
      obtain ⟨wq, hwq⟩ : ∃ wq, wr.alloc (.cells #[.int .i64 mk.kind, .slice Ad mk.data.length cd, .int .i64 mk.n] 40) = wq := ⟨_, rfl⟩
      have hnq : Blk wq wr.heap.size 40 #[.int .i64 mk.kind, .slice Ad mk.data.length cd, .int .i64 mk.n] := by rw [← hwq]; exact Blk.new wr 40 _
      have hbq : Below wr.heap.size wr wq := by rw [← hwq]; exact (Below.refl _ _).alloc (Nat.le_refl _) _
      have hsq : wr.heap.size ≤ wq.heap.size := hbq.size
      have Hrc := Lib.hid (own_belowS hrc hbq)
      have Hrs := Lib.hid (own_belowS hrs hbq)
      have Hro := Lib.hid (own_belowS hro hbq)
      have Hbe := Lib.hid (hbe.trans (hbq.mono hsz))
      have Hdd := Lib.hid (hdd.2.below (hbq.mono (by omega)))
      have Hnq := Lib.hid hnq
      have q0 : wq.cell? ⟨wr.heap.size, 0, none⟩ = some (.int .i64 mk.kind) := hnq.cell 0
      have q1 : wq.cell? ⟨wr.heap.size, 1, none⟩ = some (.slice Ad mk.data.length cd) := hnq.cell 1
      have q2 : wq.cell? ⟨wr.heap.size, 2, none⟩ = some (.int .i64 mk.n) := hnq.cell 2
      have hwq0 : w.heap.size ≤ wq.heap.size := Nat.le_trans hsz hsq
      have hk1 : k + 1 ≤ 1048576 := by omega
      obtain ⟨A7, c7, he7, hAs⟩ := own_form hrs
      injection he7 with e1 _ e3
      subst e1 e3
      obtain ⟨A8, c8, he8, hAo⟩ := own_form hro
      injection he8 with e1 _ e3
      subst e1 e3
      have hAs' : As = none → cs = 0 := fun h => (hAs h).2
      have hAo' : Ao = none → co = 0 := fun h => (hAo h).2
      clear hgk hrc hrs hro hbe hmi hok hSl hOl hSO hS hO hsum hbq hnq hdd hAs hAo
      by_cases k1 : mk.kind = 1
      · have kb : (mk.kind == 1) = true := by simp [k1]
        by_cases hfull : 1200 < st.1.length + mk.data.length
        · have Hst := Lib.hid (mv_write_full k1 hfull)
          have HSx := HS
          have HOx := HO
          have ht : (1200 : Int) < (S.length : Int) + (O.length : Int) + (mk.data.length : Int) := by have := Hsum.out; omega
          clear k1 hfull
          go_wp2_with (at_builtin; refine wpList_append1 wq (by rfl) _ _ 23 (by rfl) w.heap.size 25 i1 _ 8 Try.underlying23 hi1 hy0 hy1 hy2 rfl _ _ _ (by rfl) Hrc.out (.int .i64 10) (by rfl) rfl hk1 (by decide) hwq0 ?_; intro v9 w9 ho9 hg9 hb9)
          go_wp2
          go_roundg (n - (k + 1))
          case measure => have := Hgk.out; omega
          case rel =>
            obtain ⟨A9, c9, rfl, _⟩ := own_form ho9
            have hT := HT.out
            rw [Hst.out] at hT
            have hs1 := World.ownsRow.kept Hrs.out hg9 (row_row Hrs.out Hrc.out (by decide))
            have ho1 := World.ownsRow.kept Hro.out hg9 (row_row Hro.out Hrc.out (by decide))
            have hb1 := (Hbe.out).grown hg9 hwq0 fun j hj => (World.ownsRow.lt Hrc.out j hj).1
            refine ⟨k + 1, A9, c9, As, cs, Ao, co, rfl, ?_, ?_, by go_num, by omega, by omega, ?_, ?_, ?_, hb1⟩
            · rw [hT, HSx.out]
            · rw [hT, HOx.out]
            · rw [hT, List.map_append]; exact ho9
            · rw [hT, HSx.out]; exact hs1
            · rw [hT, HOx.out]; exact ho1
        · have Hst := Lib.hid (mv_write k1 hfull)
          have HSx := Lib.hid (show safeOf (st.1 ++ mk.data, st.2) = S by rw [(safe_more Hok.out mk.data).1]; exact HS.out)
          have HOx := Lib.hid (show openOf (st.1 ++ mk.data, st.2) = O ++ mk.data by rw [(safe_more Hok.out mk.data).2, HO.out])
          have ht : ¬ (1200 : Int) < (S.length : Int) + (O.length : Int) + (mk.data.length : Int) := by have := Hsum.out; omega
          have hd12 : mk.data.length ≤ 1200 := by omega
          clear k1 hfull
          have hwd : Below wq.heap.size wq wq.drew := below_drewN (Below.refl _ _) 1
          have hoq : Holds wq.drew wq.drew.heap.size 1 Ao O.length (O.map bv) := Holds.own (own_belowS Hro.out hwd)
          have hdq : Holds wq.drew wq.drew.heap.size 1 Ad mk.data.length (mk.data.map bv) := (Hdd.out.below (hwd.mono (by omega))).wider (by show B ≤ wq.heap.size; omega)
          obtain ⟨wd, hwde⟩ : ∃ wd, wq.drew = wd := ⟨_, rfl⟩
          rw [hwde] at hwd hoq hdq
          obtain ⟨v5, w5, hrun5, ho5, hg5, _⟩ := run_app_all (P := Try.prog) wd 24 24 wd.heap.size 5 i0 _ 1 1 Try.underlying24 hi0 hz0 hz1 hz2 rfl (by decide) (.slice none 0 0) 0 [] (World.ownsRow_nil _ _ _ _) wd.heap.size Ao O.length co (O.map bv) hAo' hoq (bv_one _) (by omega) (by decide) (Nat.le_refl _)
          have hb5 : Below wd.heap.size wd w5 := (Below.refl _ _).grown hg5 (Nat.le_refl _) (by simp [Value.ownBlock])
          simp only [Nat.zero_add, List.nil_append] at ho5
          obtain ⟨A5, c5, rfl, _⟩ := own_form ho5
          obtain ⟨v6, w6, hrun6, ho6, hg6, _⟩ := run_app_all (P := Try.prog) w5 24 24 wd.heap.size 5 i0 _ 1 1 Try.underlying24 hi0 hz0 hz1 hz2 rfl (by decide) (.slice A5 O.length c5) O.length _ ho5 wd.heap.size Ad mk.data.length cd (mk.data.map bv) hAd ((hdq).below hb5) (bv_one _) (by omega) (by decide) hb5.size
          have hb6 : Below wd.heap.size wd w6 := hb5.grown hg6 hb5.size fun j hj => (World.ownsRow.lt ho5 j hj).1
          obtain ⟨A6, c6, rfl, _⟩ := own_form ho6
          have hS0 : wd.cell? ⟨wr.heap.size, 1, none⟩ = some (.slice Ad mk.data.length cd) := by rw [← hwde]; exact q1
          have hlw : wr.heap.size < wd.heap.size := by rw [← hwde]; exact Hnq.out.lt
          have hS5 : w5.cell? ⟨wr.heap.size, 1, none⟩ = some (.slice Ad mk.data.length cd) := (hb5.cell (p := ⟨wr.heap.size, 1, none⟩) hlw).trans hS0
          have hS6 : w6.cell? ⟨wr.heap.size, 1, none⟩ = some (.slice Ad mk.data.length cd) := (hb6.cell (p := ⟨wr.heap.size, 1, none⟩) hlw).trans hS0
          have Hrun5 := Lib.hid hrun5
          have Hrun6 := Lib.hid hrun6
          have hwd6 : Below wq.heap.size wq w6 := hwd.trans (hb6.mono hwd.size)
          have Hrc6 := Lib.hid (own_belowS Hrc.out hwd6)
          have Hrs6 := Lib.hid (own_belowS Hrs.out hwd6)
          have Hbe6 := Lib.hid (Hbe.out.trans (hwd6.mono hwq0))
          have hs6 := Hbe6.out.size
          have Hro6 := Lib.hid (show w6.ownsRow w.heap.size 5 1 (.slice A6 (O.length + mk.data.length) c6) (O.length + mk.data.length) ((O ++ mk.data).map bv) by
            rw [List.map_append]
            exact own_lower ho6 (Nat.le_trans hwq0 hwd.size))
          clear hrun5 hrun6 ho5 hg5 hb5 ho6 hg6 hb6 hwd hoq hdq hwd6
          go_wp2_with fail
          refine region_S (fun w' => w'.cell? ⟨wr.heap.size, 1, none⟩ = some (.slice Ad mk.data.length cd)) [] (by kernel_rfl) ?_
          rw [hwde]
          refine anyS_take 0 (v := .slice Ao O.length co) rfl (by kernel_rfl) (by kernel_rfl) (by kernel_rfl) (by kernel_rfl) (fun _ _ _ h => h) (.inl ⟨by kernel_rfl, fun w' hS' => by kernel_rfl⟩) hS0 ?_
          refine anyS_take 2 (v := .pointer (some ⟨wr.heap.size, 1, none⟩)) rfl (by kernel_rfl) (by kernel_rfl) (by kernel_rfl) (by kernel_rfl) (fun _ _ _ h => h) (.inl ⟨by kernel_rfl, fun w' hS' => by kernel_rfl⟩) hS0 ?_
          refine anyS_take 3 (v := .slice Ad mk.data.length cd) rfl (by kernel_rfl) (by kernel_rfl) (by kernel_rfl) (by kernel_rfl) (fun _ _ _ h => h) (.inl ⟨by kernel_rfl, fun w' hS' => by go_simp⟩) hS0 ?_
          refine anyS_one 1 rfl (by kernel_rfl) rfl ?_
          intro K1 hK1
          refine oper_app _ _ _ rfl (.slice none 0 0) (.slice Ao O.length co) (by kernel_rfl) (by kernel_rfl) Hrun5.out ?_
          refine hK1 _ _ ⟨fun _ => hS5, ?_⟩
          refine anyS_one 4 rfl (by kernel_rfl) rfl ?_
          intro K2 hK2
          refine oper_app _ _ _ rfl (.slice A5 O.length c5) (.slice Ad mk.data.length cd) (by kernel_rfl) (by kernel_rfl) Hrun6.out ?_
          refine hK2 _ _ ⟨fun _ => hS6, ?_⟩
          refine anyS_take 5 (v := .slice A6 (O.length + mk.data.length) c6) rfl (by kernel_rfl) (by kernel_rfl) (by kernel_rfl) (by kernel_rfl) (fun _ _ _ h => h) (.inl ⟨by kernel_rfl, fun w' hS' => by kernel_rfl⟩) hS6 ?_
          refine anyS_done (by kernel_rfl) ?_
          go_wp2_with (at_builtin; refine wpList_append1 w6 (by rfl) _ _ 23 (by rfl) w.heap.size 25 i1 _ 8 Try.underlying23 hi1 hy0 hy1 hy2 rfl _ _ _ (by rfl) Hrc6.out (.int .i64 0) (by rfl) rfl hk1 (by decide) hs6 ?_; intro v9 w9 ho9 hg9 hb9)
          go_wp2
          go_roundg (n - (k + 1))
          case measure => have := Hgk.out; omega
          case rel =>
            obtain ⟨A9, c9, rfl, _⟩ := own_form ho9
            have hT := HT.out
            rw [Hst.out] at hT
            have hs1 := World.ownsRow.kept Hrs6.out hg9 (row_row Hrs6.out Hrc6.out (by decide))
            have ho1 := World.ownsRow.kept Hro6.out hg9 (row_row Hro6.out Hrc6.out (by decide))
            have hb1 := (Hbe6.out).grown hg9 hs6 fun j hj => (World.ownsRow.lt Hrc6.out j hj).1
            refine ⟨k + 1, A9, c9, As, cs, A6, c6, rfl, ?_, ?_, by go_num, by omega, by omega, ?_, ?_, ?_, hb1⟩
            · rw [hT, HSx.out]
            · rw [hT, HOx.out, List.length_append]
            · rw [hT, List.map_append]; exact ho9
            · rw [hT, HSx.out]; exact hs1
            · rw [hT, HOx.out, List.length_append]; exact ho1
      · have n1 : (mk.kind == 1) = false := by simpa using k1
        by_cases k2 : mk.kind = 2
        · have kb : (mk.kind == 2) = true := by simp [k2]
          have Hst := Lib.hid (mv_sync (s := st) k2)
          have HSx := Lib.hid (show safeOf (st.1, st.1.length) = S ++ O by rw [(safe_all st.1).1]; exact HSO.out.symm)
          have HOx := Lib.hid (show openOf (st.1, st.1.length) = [] from (safe_all st.1).2)
          have hsq1 : Holds wq wq.heap.size 1 As S.length (S.map bv) := Holds.own Hrs.out
          have hoq : Holds wq wq.heap.size 1 Ao O.length (O.map bv) := Holds.own Hro.out
          obtain ⟨v5, w5, hrun5, ho5, hg5, _⟩ := run_app_all (P := Try.prog) wq 24 24 wq.heap.size 5 i0 _ 1 1 Try.underlying24 hi0 hz0 hz1 hz2 rfl (by decide) (.slice none 0 0) 0 [] (World.ownsRow_nil _ _ _ _) wq.heap.size As S.length cs (S.map bv) hAs' hsq1 (bv_one _) (by omega) (by decide) (Nat.le_refl _)
          have hb5 : Below wq.heap.size wq w5 := (Below.refl _ _).grown hg5 (Nat.le_refl _) (by simp [Value.ownBlock])
          simp only [Nat.zero_add, List.nil_append] at ho5
          obtain ⟨A5, c5, rfl, _⟩ := own_form ho5
          obtain ⟨v6, w6, hrun6, ho6, hg6, _⟩ := run_app_all (P := Try.prog) w5 24 24 wq.heap.size 5 i0 _ 1 1 Try.underlying24 hi0 hz0 hz1 hz2 rfl (by decide) (.slice A5 S.length c5) S.length _ ho5 wq.heap.size Ao O.length co (O.map bv) hAo' ((hoq).below hb5) (bv_one _) (by omega) (by decide) hb5.size
          have hb6 : Below wq.heap.size wq w6 := hb5.grown hg6 hb5.size fun j hj => (World.ownsRow.lt ho5 j hj).1
          obtain ⟨A6, c6, rfl, _⟩ := own_form ho6
          have Hrc6 := Lib.hid (own_belowS Hrc.out hb6)
          have Hbe6 := Lib.hid (Hbe.out.trans (hb6.mono hwq0))
          have hs6 := Hbe6.out.size
          have Hrs6 := Lib.hid (show w6.ownsRow w.heap.size 5 1 (.slice A6 (S.length + O.length) c6) (S.length + O.length) ((S ++ O).map bv) by
            rw [List.map_append]
            exact own_lower ho6 hwq0)
          have Hro6 := Lib.hid (World.ownsRow_nil w6 w.heap.size 5 1)
          have R1 := Lib.hid hrun5
          have R2 := Lib.hid hrun6
          clear hrun5 hrun6 ho5 hg5 hb5 ho6 hg6 hb6 hsq1 hoq k1 k2
          go_wp2_with (first | (at_builtin; refine wpList_run (by rfl) _ _ _ (by rfl) _ _ (by rfl) (by rfl) R1.out ?_; clear R1) | (at_builtin; refine wpList_run (by rfl) _ _ _ (by rfl) _ _ (by rfl) (by rfl) R2.out ?_; clear R2) | (at_builtin; refine wpList_append1 w6 (by rfl) _ _ 23 (by rfl) w.heap.size 25 i1 _ 8 Try.underlying23 hi1 hy0 hy1 hy2 rfl _ _ _ (by rfl) Hrc6.out (.int .i64 0) (by rfl) rfl hk1 (by decide) hs6 ?_; intro v9 w9 ho9 hg9 hb9))
          go_wp2
          go_roundg (n - (k + 1))
          case measure => have := Hgk.out; omega
          case rel =>
            obtain ⟨A9, c9, rfl, _⟩ := own_form ho9
            have hT := HT.out
            rw [Hst.out] at hT
            have hs1 := World.ownsRow.kept Hrs6.out hg9 (row_row Hrs6.out Hrc6.out (by decide))
            have ho1 := World.ownsRow.kept Hro6.out hg9 (row_row Hro6.out Hrc6.out (by decide))
            have hb1 := (Hbe6.out).grown hg9 hs6 fun j hj => (World.ownsRow.lt Hrc6.out j hj).1
            refine ⟨k + 1, A9, c9, A6, c6, none, 0, rfl, ?_, ?_, by go_num, by omega, by omega, ?_, ?_, ?_, hb1⟩
            · rw [hT, HSx.out, List.length_append]
            · rw [hT, HOx.out]; rfl
            · rw [hT, List.map_append]; exact ho9
            · rw [hT, HSx.out, List.length_append]; exact hs1
            · rw [hT, HOx.out]; exact ho1
        · have n2 : (mk.kind == 2) = false := by simpa using k2
          by_cases k3 : mk.kind = 3
          · have kb : (mk.kind == 3) = true := by simp [k3]
            have hsq1 : Holds wq wq.heap.size 1 As S.length (S.map bv) := Holds.own Hrs.out
            have hoq : Holds wq wq.heap.size 1 Ao O.length (O.map bv) := Holds.own Hro.out
            obtain ⟨v5, w5, hrun5, ho5, hg5, _⟩ := run_app_all (P := Try.prog) wq 24 24 wq.heap.size 5 i0 _ 1 1 Try.underlying24 hi0 hz0 hz1 hz2 rfl (by decide) (.slice none 0 0) 0 [] (World.ownsRow_nil _ _ _ _) wq.heap.size As S.length cs (S.map bv) hAs' hsq1 (bv_one _) (by omega) (by decide) (Nat.le_refl _)
            have hb5 : Below wq.heap.size wq w5 := (Below.refl _ _).grown hg5 (Nat.le_refl _) (by simp [Value.ownBlock])
            simp only [Nat.zero_add, List.nil_append] at ho5
            obtain ⟨A5, c5, rfl, _⟩ := own_form ho5
            obtain ⟨v6, w6, hrun6, ho6, hg6, _⟩ := run_app_all (P := Try.prog) w5 24 24 wq.heap.size 5 i0 _ 1 1 Try.underlying24 hi0 hz0 hz1 hz2 rfl (by decide) (.slice A5 S.length c5) S.length _ ho5 wq.heap.size Ao O.length co (O.map bv) hAo' ((hoq).below hb5) (bv_one _) (by omega) (by decide) hb5.size
            have hb6 : Below wq.heap.size wq w6 := hb5.grown hg6 hb5.size fun j hj => (World.ownsRow.lt ho5 j hj).1
            obtain ⟨A6, c6, rfl, _⟩ := own_form ho6
            have Hrc6 := Lib.hid (own_belowS Hrc.out hb6)
            have Hbe6 := Lib.hid (Hbe.out.trans (hb6.mono hwq0))
            have hs6 := Hbe6.out.size
            have hlw : wr.heap.size < wq.heap.size := Hnq.out.lt
            have p2 : w6.cell? ⟨wr.heap.size, 2, none⟩ = some (.int .i64 mk.n) := (hb6.cell (p := ⟨wr.heap.size, 2, none⟩) hlw).trans q2
            have R1 := Lib.hid hrun5
            have R2 := Lib.hid hrun6
            by_cases hbad : mk.n < 0 ∨ (st.1.length : Int) < mk.n
            · have Hst := Lib.hid (mv_trim_bad (s := st) k3 hbad)
              have HSx := HS
              have HOx := HO
              have Hrs6 := Lib.hid (own_belowS Hrs.out hb6)
              have Hro6 := Lib.hid (own_belowS Hro.out hb6)
              have hbad2 : mk.n < 0 ∨ (S.length : Int) + (O.length : Int) < mk.n := by have := Hsum.out; omega
              clear hrun5 hrun6 ho5 hg5 hb5 ho6 hg6 hb6 hsq1 hoq k1 k2 k3 hbad
              by_cases hneg : mk.n < 0
              · clear hbad2
                go_wp2_with (first | (at_builtin; refine wpList_run (by rfl) _ _ _ (by rfl) _ _ (by rfl) (by rfl) R1.out ?_; clear R1) | (at_builtin; refine wpList_run (by rfl) _ _ _ (by rfl) _ _ (by rfl) (by rfl) R2.out ?_; clear R2) | (at_builtin; refine wpList_append1 w6 (by rfl) _ _ 23 (by rfl) w.heap.size 25 i1 _ 8 Try.underlying23 hi1 hy0 hy1 hy2 rfl _ _ _ (by rfl) Hrc6.out (.int .i64 2) (by rfl) rfl hk1 (by decide) hs6 ?_; intro v9 w9 ho9 hg9 hb9))
                go_wp2
                go_roundg (n - (k + 1))
                case measure => have := Hgk.out; omega
                case rel =>
                  obtain ⟨A9, c9, rfl, _⟩ := own_form ho9
                  have hT := HT.out
                  rw [Hst.out] at hT
                  have hs1 := World.ownsRow.kept Hrs6.out hg9 (row_row Hrs6.out Hrc6.out (by decide))
                  have ho1 := World.ownsRow.kept Hro6.out hg9 (row_row Hro6.out Hrc6.out (by decide))
                  have hb1 := (Hbe6.out).grown hg9 hs6 fun j hj => (World.ownsRow.lt Hrc6.out j hj).1
                  refine ⟨k + 1, A9, c9, As, cs, Ao, co, rfl, ?_, ?_, by go_num, by omega, by omega, ?_, ?_, ?_, hb1⟩
                  · rw [hT, HSx.out]
                  · rw [hT, HOx.out]
                  · rw [hT, List.map_append]; exact ho9
                  · rw [hT, HSx.out]; exact hs1
                  · rw [hT, HOx.out]; exact ho1
              · have hbig : (S.length : Int) + (O.length : Int) < mk.n := by omega
                clear hbad2
                go_wp2_with (first | (at_builtin; refine wpList_run (by rfl) _ _ _ (by rfl) _ _ (by rfl) (by rfl) R1.out ?_; clear R1) | (at_builtin; refine wpList_run (by rfl) _ _ _ (by rfl) _ _ (by rfl) (by rfl) R2.out ?_; clear R2) | (at_builtin; refine wpList_append1 w6 (by rfl) _ _ 23 (by rfl) w.heap.size 25 i1 _ 8 Try.underlying23 hi1 hy0 hy1 hy2 rfl _ _ _ (by rfl) Hrc6.out (.int .i64 2) (by rfl) rfl hk1 (by decide) hs6 ?_; intro v9 w9 ho9 hg9 hb9))
                go_wp2
                go_roundg (n - (k + 1))
                case measure => have := Hgk.out; omega
                case rel =>
                  obtain ⟨A9, c9, rfl, _⟩ := own_form ho9
                  have hT := HT.out
                  rw [Hst.out] at hT
                  have hs1 := World.ownsRow.kept Hrs6.out hg9 (row_row Hrs6.out Hrc6.out (by decide))
                  have ho1 := World.ownsRow.kept Hro6.out hg9 (row_row Hro6.out Hrc6.out (by decide))
                  have hb1 := (Hbe6.out).grown hg9 hs6 fun j hj => (World.ownsRow.lt Hrc6.out j hj).1
                  refine ⟨k + 1, A9, c9, As, cs, Ao, co, rfl, ?_, ?_, by go_num, by omega, by omega, ?_, ?_, ?_, hb1⟩
                  · rw [hT, HSx.out]
                  · rw [hT, HOx.out]
                  · rw [hT, List.map_append]; exact ho9
                  · rw [hT, HSx.out]; exact hs1
                  · rw [hT, HOx.out]; exact ho1
            · obtain ⟨t, ht⟩ : ∃ t : Nat, mk.n = (t : Int) := ⟨mk.n.toNat, by omega⟩
              have htl : t ≤ S.length + O.length := by have := Hsum.out; omega
              have Hst := Lib.hid (mv_trim (s := st) k3 ht (by have := Hsum.out; omega))
              have HSx := Lib.hid (show safeOf (st.1.take t, t) = (S ++ O).take t by rw [(safe_cut (by have := Hsum.out; omega)).1, HSO.out])
              have HOx := Lib.hid (show openOf (st.1.take t, t) = [] from (safe_cut (by have := Hsum.out; omega)).2)
              have Hlt := Lib.hid (show ((S ++ O).take t).length = t by rw [List.length_take, List.length_append]; omega)
              have ho6' : w6.ownsRow w.heap.size 5 1 (.slice A6 (S.length + O.length) c6) (S.length + O.length) ((S ++ O).map bv) := by
                rw [List.map_append]
                exact own_lower ho6 hwq0
              have Hrs6 := Lib.hid (own_first ho6' htl)
              have Hro6 := Lib.hid (World.ownsRow_nil w6 w.heap.size 5 1)
              have hcap : t ≤ c6 := by
                rcases ho6'.2 with ⟨hv, hn⟩ | ⟨g, cap, cur, hv, _, _, hnc, _⟩
                · omega
                · injection hv with _ _ hc; omega
              have hs0 := fun W => run_cut_h (P := Try.prog) W 24 5 i0 Try.underlying24 hi0 A6 (S.length + O.length) c6 .i64 mk.n t ht hcap
              have hneg : ¬ mk.n < 0 := by omega
              have hneg' : decide (mk.n < 0) = false := by simpa using hneg
              have hbig : ¬ ((S.length : Int) + (O.length : Int) < mk.n) := by omega
              clear hrun5 hrun6 ho5 hg5 hb5 ho6 ho6' hg6 hb6 hsq1 hoq k1 k2 k3 hbad ht hcap
              go_wp2_with (first | (at_builtin; refine wpList_run (by rfl) _ _ _ (by rfl) _ _ (by rfl) (by rfl) R1.out ?_; clear R1) | (at_builtin; refine wpList_run (by rfl) _ _ _ (by rfl) _ _ (by rfl) (by rfl) R2.out ?_; clear R2) | (at_builtin; refine wpList_append1 w6 (by rfl) _ _ 23 (by rfl) w.heap.size 25 i1 _ 8 Try.underlying23 hi1 hy0 hy1 hy2 rfl _ _ _ (by rfl) Hrc6.out (.int .i64 0) (by rfl) rfl hk1 (by decide) hs6 ?_; intro v9 w9 ho9 hg9 hb9))
              go_wp2
              go_roundg (n - (k + 1))
              case measure => have := Hgk.out; omega
              case rel =>
                obtain ⟨A9, c9, rfl, _⟩ := own_form ho9
                have hT := HT.out
                rw [Hst.out] at hT
                have hs1 := World.ownsRow.kept Hrs6.out hg9 (row_row Hrs6.out Hrc6.out (by decide))
                have ho1 := World.ownsRow.kept Hro6.out hg9 (row_row Hro6.out Hrc6.out (by decide))
                have hb1 := (Hbe6.out).grown hg9 hs6 fun j hj => (World.ownsRow.lt Hrc6.out j hj).1
                refine ⟨k + 1, A9, c9, A6, c6, none, 0, rfl, ?_, ?_, by go_num, by omega, by omega, ?_, ?_, ?_, hb1⟩
                · rw [hT, HSx.out, Hlt.out]
                · rw [hT, HOx.out]; rfl
                · rw [hT, List.map_append]; exact ho9
                · rw [hT, HSx.out, Hlt.out]; exact hs1
                · rw [hT, HOx.out]; exact ho1
          · have n3 : (mk.kind == 3) = false := by simpa using k3
            by_cases k4 : mk.kind = 4
            · have kb : (mk.kind == 4) = true := by simp [k4]
              by_cases hneg : mk.n < 0
              · have Hst := Lib.hid (mv_fall_bad (s := st) k4 hneg)
                have HSx := HS
                have HOx := HO
                clear k1 k2 k3 k4
                go_wp2_with (at_builtin; refine wpList_append1 wq (by rfl) _ _ 23 (by rfl) w.heap.size 25 i1 _ 8 Try.underlying23 hi1 hy0 hy1 hy2 rfl _ _ _ (by rfl) Hrc.out (.int .i64 2) (by rfl) rfl hk1 (by decide) hwq0 ?_; intro v9 w9 ho9 hg9 hb9)
                go_wp2
                go_roundg (n - (k + 1))
                case measure => have := Hgk.out; omega
                case rel =>
                  obtain ⟨A9, c9, rfl, _⟩ := own_form ho9
                  have hT := HT.out
                  rw [Hst.out] at hT
                  have hs1 := World.ownsRow.kept Hrs.out hg9 (row_row Hrs.out Hrc.out (by decide))
                  have ho1 := World.ownsRow.kept Hro.out hg9 (row_row Hro.out Hrc.out (by decide))
                  have hb1 := (Hbe.out).grown hg9 hwq0 fun j hj => (World.ownsRow.lt Hrc.out j hj).1
                  refine ⟨k + 1, A9, c9, As, cs, Ao, co, rfl, ?_, ?_, by go_num, by omega, by omega, ?_, ?_, ?_, hb1⟩
                  · rw [hT, HSx.out]
                  · rw [hT, HOx.out]
                  · rw [hT, List.map_append]; exact ho9
                  · rw [hT, HSx.out]; exact hs1
                  · rw [hT, HOx.out]; exact ho1
              · have hneg' : decide (mk.n < 0) = false := by simpa using hneg
                obtain ⟨j, hj⟩ : ∃ j : Nat, j = min mk.n.toNat O.length := ⟨_, rfl⟩
                obtain ⟨K, hK⟩ : ∃ K : Nat, K = st.2 + min mk.n.toNat (st.1.length - st.2) := ⟨_, rfl⟩
                have hOl : O.length = st.1.length - st.2 := by have := Hsum.out; have := HSl.out; omega
                have hKj : K = st.2 + j := by omega
                have hjl : j ≤ O.length := by omega
                have hKl : K ≤ st.1.length := by have := Hok.out.1; omega
                have Hst := Lib.hid (mv_fall (s := st) k4 (by omega) Hok.out.1 hK)
                have HSx := Lib.hid (show safeOf (st.1.take K, K) = S ++ O.take j by
                  rw [(safe_cut hKl).1, ← HS.out, ← HO.out]
                  exact (safe_fall Hok.out (by rw [HO.out]; exact hjl) hKj).symm)
                have HOx := Lib.hid (show openOf (st.1.take K, K) = [] from (safe_cut hKl).2)
                have Hlj := Lib.hid (show (O.take j).length = j by rw [List.length_take]; omega)
                have hwd : Below wq.heap.size wq wq.drew := below_drewN (Below.refl _ _) 1
                have hsq1 : Holds wq.drew wq.drew.heap.size 1 As S.length (S.map bv) := Holds.own (own_belowS Hrs.out hwd)
                have hoq : Holds wq.drew wq.drew.heap.size 1 Ao j ((O.take j).map bv) := (Holds.own (own_belowS Hro.out hwd)).first hjl
                have hco : j ≤ co := by
                  rcases Hro.out.2 with ⟨hv, hn⟩ | ⟨g, cap, cur, hv, _, _, hnc, _⟩
                  · omega
                  · injection hv with _ _ hc; omega
                obtain ⟨wd, hwde⟩ : ∃ wd, wq.drew = wd := ⟨_, rfl⟩
                rw [hwde] at hwd hsq1 hoq
                obtain ⟨v5, w5, hrun5, ho5, hg5, _⟩ := run_app_all (P := Try.prog) wd 24 24 wd.heap.size 5 i0 _ 1 1 Try.underlying24 hi0 hz0 hz1 hz2 rfl (by decide) (.slice none 0 0) 0 [] (World.ownsRow_nil _ _ _ _) wd.heap.size As S.length cs (S.map bv) hAs' hsq1 (bv_one _) (by omega) (by decide) (Nat.le_refl _)
                have hb5 : Below wd.heap.size wd w5 := (Below.refl _ _).grown hg5 (Nat.le_refl _) (by simp [Value.ownBlock])
                simp only [Nat.zero_add, List.nil_append] at ho5
                obtain ⟨A5, c5, rfl, _⟩ := own_form ho5
                obtain ⟨v6, w6, hrun6, ho6, hg6, _⟩ := run_app_all (P := Try.prog) w5 24 24 wd.heap.size 5 i0 _ 1 1 Try.underlying24 hi0 hz0 hz1 hz2 rfl (by decide) (.slice A5 S.length c5) S.length _ ho5 wd.heap.size Ao j co ((O.take j).map bv) hAo' ((hoq).below hb5) (bv_one _) (by omega) (by decide) hb5.size
                have hb6 : Below wd.heap.size wd w6 := hb5.grown hg6 hb5.size fun j hj => (World.ownsRow.lt ho5 j hj).1
                obtain ⟨A6, c6, rfl, _⟩ := own_form ho6
                have hS0 : wd.cell? ⟨wr.heap.size, 2, none⟩ = some (.int .i64 mk.n) := by rw [← hwde]; exact q2
                have hlw : wr.heap.size < wd.heap.size := by rw [← hwde]; exact Hnq.out.lt
                have hS5 : w5.cell? ⟨wr.heap.size, 2, none⟩ = some (.int .i64 mk.n) := (hb5.cell (p := ⟨wr.heap.size, 2, none⟩) hlw).trans hS0
                have hS6 : w6.cell? ⟨wr.heap.size, 2, none⟩ = some (.int .i64 mk.n) := (hb6.cell (p := ⟨wr.heap.size, 2, none⟩) hlw).trans hS0
                have Hrun5 := Lib.hid hrun5
                have Hrun6 := Lib.hid hrun6
                have hwd6 : Below wq.heap.size wq w6 := hwd.trans (hb6.mono hwd.size)
                have Hrc6 := Lib.hid (own_belowS Hrc.out hwd6)
                have Hbe6 := Lib.hid (Hbe.out.trans (hwd6.mono hwq0))
                have hs6 := Hbe6.out.size
                have Hrs6 := Lib.hid (show w6.ownsRow w.heap.size 5 1 (.slice A6 (S.length + j) c6) (S.length + j) ((S ++ O.take j).map bv) by
                  rw [List.map_append]
                  exact own_lower ho6 (Nat.le_trans hwq0 hwd.size))
                have Hro6 := Lib.hid (World.ownsRow_nil w6 w.heap.size 5 1)
                have hcut : ∀ X : Int, X = (j : Int) → ∀ W, (Instr.slice 24 (.slice Ao O.length co) none (some (.int .i64 X)) none).run Try.prog W = .ok (.slice Ao j co) W := fun X hX W => run_cut_h (P := Try.prog) W 24 5 i0 Try.underlying24 hi0 Ao O.length co .i64 X j hX hco
                clear hrun5 hrun6 ho5 hg5 hb5 ho6 hg6 hb6 hwd hsq1 hoq hwd6 k1 k2 k3 k4 hK hKj hKl
                by_cases hmin : (O.length : Int) < mk.n
                · have hs0 := hcut (O.length : Int) (by omega)
                  clear hcut hj hOl
                  go_wp2_with fail
                  refine region_S (fun w' => w'.cell? ⟨wr.heap.size, 2, none⟩ = some (.int .i64 mk.n)) [] (by kernel_rfl) ?_
                  rw [hwde]
                  refine anyS_take 0 (v := .slice As S.length cs) rfl (by kernel_rfl) (by kernel_rfl) (by kernel_rfl) (by kernel_rfl) (fun _ _ _ h => h) (.inl ⟨by kernel_rfl, fun w' hS' => by kernel_rfl⟩) hS0 ?_
                  refine anyS_take 2 (v := .slice Ao O.length co) rfl (by kernel_rfl) (by kernel_rfl) (by kernel_rfl) (by kernel_rfl) (fun _ _ _ h => h) (.inl ⟨by kernel_rfl, fun w' hS' => by kernel_rfl⟩) hS0 ?_
                  refine anyS_take 3 (v := .pointer (some ⟨wr.heap.size, 2, none⟩)) rfl (by kernel_rfl) (by kernel_rfl) (by kernel_rfl) (by kernel_rfl) (fun _ _ _ h => h) (.inl ⟨by kernel_rfl, fun w' hS' => by kernel_rfl⟩) hS0 ?_
                  refine anyS_take 4 (v := .int .i64 mk.n) rfl (by kernel_rfl) (by kernel_rfl) (by kernel_rfl) (by kernel_rfl) (fun _ _ _ h => h) (.inl ⟨by kernel_rfl, fun w' hS' => by go_simp⟩) hS0 ?_
                  refine anyS_take 5 (v := .slice Ao O.length co) rfl (by kernel_rfl) (by kernel_rfl) (by kernel_rfl) (by kernel_rfl) (fun _ _ _ h => h) (.inl ⟨by kernel_rfl, fun w' hS' => by kernel_rfl⟩) hS0 ?_
                  refine anyS_take 6 (v := .int .i64 (O.length : Int)) rfl (by kernel_rfl) (by kernel_rfl) (by kernel_rfl) (by kernel_rfl) (fun _ _ _ h => h) (.inl ⟨by kernel_rfl, fun w' hS' => by go_simp⟩) hS0 ?_
                  refine anyS_take 7 (v := .int .i64 (O.length : Int)) rfl (by kernel_rfl) (by kernel_rfl) (by kernel_rfl) (by kernel_rfl) (fun _ _ _ h => h) (.inl ⟨by kernel_rfl, fun w' hS' => by go_simp⟩) hS0 ?_
                  refine anyS_take 8 (v := .slice Ao j co) rfl (by kernel_rfl) (by kernel_rfl) (by kernel_rfl) (by kernel_rfl) (fun _ _ _ h => h) (.inl ⟨by kernel_rfl, fun w' hS' => by go_simp⟩) hS0 ?_
                  refine anyS_one 1 rfl (by kernel_rfl) rfl ?_
                  intro K1 hK1
                  refine oper_app _ _ _ rfl (.slice none 0 0) (.slice As S.length cs) (by kernel_rfl) (by kernel_rfl) Hrun5.out ?_
                  refine hK1 _ _ ⟨fun _ => hS5, ?_⟩
                  refine anyS_one 9 rfl (by kernel_rfl) rfl ?_
                  intro K2 hK2
                  refine oper_app _ _ _ rfl (.slice A5 S.length c5) (.slice Ao j co) (by kernel_rfl) (by kernel_rfl) Hrun6.out ?_
                  refine hK2 _ _ ⟨fun _ => hS6, ?_⟩
                  refine anyS_take 10 (v := .slice A6 (S.length + j) c6) rfl (by kernel_rfl) (by kernel_rfl) (by kernel_rfl) (by kernel_rfl) (fun _ _ _ h => h) (.inl ⟨by kernel_rfl, fun w' hS' => by kernel_rfl⟩) hS6 ?_
                  refine anyS_done (by kernel_rfl) ?_
                  go_wp2_with (at_builtin; refine wpList_append1 w6 (by rfl) _ _ 23 (by rfl) w.heap.size 25 i1 _ 8 Try.underlying23 hi1 hy0 hy1 hy2 rfl _ _ _ (by rfl) Hrc6.out (.int .i64 0) (by rfl) rfl hk1 (by decide) hs6 ?_; intro v9 w9 ho9 hg9 hb9)
                  go_wp2
                  go_roundg (n - (k + 1))
                  case measure => have := Hgk.out; omega
                  case rel =>
                    obtain ⟨A9, c9, rfl, _⟩ := own_form ho9
                    have hT := HT.out
                    rw [Hst.out] at hT
                    have hs1 := World.ownsRow.kept Hrs6.out hg9 (row_row Hrs6.out Hrc6.out (by decide))
                    have ho1 := World.ownsRow.kept Hro6.out hg9 (row_row Hro6.out Hrc6.out (by decide))
                    have hb1 := (Hbe6.out).grown hg9 hs6 fun j hj => (World.ownsRow.lt Hrc6.out j hj).1
                    refine ⟨k + 1, A9, c9, A6, c6, none, 0, rfl, ?_, ?_, by go_num, by omega, by omega, ?_, ?_, ?_, hb1⟩
                    · rw [hT, HSx.out, List.length_append, Hlj.out]
                    · rw [hT, HOx.out]; rfl
                    · rw [hT, List.map_append]; exact ho9
                    · rw [hT, HSx.out, List.length_append, Hlj.out]; exact hs1
                    · rw [hT, HOx.out]; exact ho1
                · have hs0 := hcut mk.n (by omega)
                  clear hcut hj hOl
                  go_wp2_with fail
                  refine region_S (fun w' => w'.cell? ⟨wr.heap.size, 2, none⟩ = some (.int .i64 mk.n)) [] (by kernel_rfl) ?_
                  rw [hwde]
                  refine anyS_take 0 (v := .slice As S.length cs) rfl (by kernel_rfl) (by kernel_rfl) (by kernel_rfl) (by kernel_rfl) (fun _ _ _ h => h) (.inl ⟨by kernel_rfl, fun w' hS' => by kernel_rfl⟩) hS0 ?_
                  refine anyS_take 2 (v := .slice Ao O.length co) rfl (by kernel_rfl) (by kernel_rfl) (by kernel_rfl) (by kernel_rfl) (fun _ _ _ h => h) (.inl ⟨by kernel_rfl, fun w' hS' => by kernel_rfl⟩) hS0 ?_
                  refine anyS_take 3 (v := .pointer (some ⟨wr.heap.size, 2, none⟩)) rfl (by kernel_rfl) (by kernel_rfl) (by kernel_rfl) (by kernel_rfl) (fun _ _ _ h => h) (.inl ⟨by kernel_rfl, fun w' hS' => by kernel_rfl⟩) hS0 ?_
                  refine anyS_take 4 (v := .int .i64 mk.n) rfl (by kernel_rfl) (by kernel_rfl) (by kernel_rfl) (by kernel_rfl) (fun _ _ _ h => h) (.inl ⟨by kernel_rfl, fun w' hS' => by go_simp⟩) hS0 ?_
                  refine anyS_take 5 (v := .slice Ao O.length co) rfl (by kernel_rfl) (by kernel_rfl) (by kernel_rfl) (by kernel_rfl) (fun _ _ _ h => h) (.inl ⟨by kernel_rfl, fun w' hS' => by kernel_rfl⟩) hS0 ?_
                  refine anyS_take 6 (v := .int .i64 (O.length : Int)) rfl (by kernel_rfl) (by kernel_rfl) (by kernel_rfl) (by kernel_rfl) (fun _ _ _ h => h) (.inl ⟨by kernel_rfl, fun w' hS' => by go_simp⟩) hS0 ?_
                  refine anyS_take 7 (v := .int .i64 mk.n) rfl (by kernel_rfl) (by kernel_rfl) (by kernel_rfl) (by kernel_rfl) (fun _ _ _ h => h) (.inl ⟨by kernel_rfl, fun w' hS' => by go_simp; exact fun h => by omega⟩) hS0 ?_
                  refine anyS_take 8 (v := .slice Ao j co) rfl (by kernel_rfl) (by kernel_rfl) (by kernel_rfl) (by kernel_rfl) (fun _ _ _ h => h) (.inl ⟨by kernel_rfl, fun w' hS' => by go_simp⟩) hS0 ?_
                  refine anyS_one 1 rfl (by kernel_rfl) rfl ?_
                  intro K1 hK1
                  refine oper_app _ _ _ rfl (.slice none 0 0) (.slice As S.length cs) (by kernel_rfl) (by kernel_rfl) Hrun5.out ?_
                  refine hK1 _ _ ⟨fun _ => hS5, ?_⟩
                  refine anyS_one 9 rfl (by kernel_rfl) rfl ?_
                  intro K2 hK2
                  refine oper_app _ _ _ rfl (.slice A5 S.length c5) (.slice Ao j co) (by kernel_rfl) (by kernel_rfl) Hrun6.out ?_
                  refine hK2 _ _ ⟨fun _ => hS6, ?_⟩
                  refine anyS_take 10 (v := .slice A6 (S.length + j) c6) rfl (by kernel_rfl) (by kernel_rfl) (by kernel_rfl) (by kernel_rfl) (fun _ _ _ h => h) (.inl ⟨by kernel_rfl, fun w' hS' => by kernel_rfl⟩) hS6 ?_
                  refine anyS_done (by kernel_rfl) ?_
                  go_wp2_with (at_builtin; refine wpList_append1 w6 (by rfl) _ _ 23 (by rfl) w.heap.size 25 i1 _ 8 Try.underlying23 hi1 hy0 hy1 hy2 rfl _ _ _ (by rfl) Hrc6.out (.int .i64 0) (by rfl) rfl hk1 (by decide) hs6 ?_; intro v9 w9 ho9 hg9 hb9)
                  go_wp2
                  go_roundg (n - (k + 1))
                  case measure => have := Hgk.out; omega
                  case rel =>
                    obtain ⟨A9, c9, rfl, _⟩ := own_form ho9
                    have hT := HT.out
                    rw [Hst.out] at hT
                    have hs1 := World.ownsRow.kept Hrs6.out hg9 (row_row Hrs6.out Hrc6.out (by decide))
                    have ho1 := World.ownsRow.kept Hro6.out hg9 (row_row Hro6.out Hrc6.out (by decide))
                    have hb1 := (Hbe6.out).grown hg9 hs6 fun j hj => (World.ownsRow.lt Hrc6.out j hj).1
                    refine ⟨k + 1, A9, c9, A6, c6, none, 0, rfl, ?_, ?_, by go_num, by omega, by omega, ?_, ?_, ?_, hb1⟩
                    · rw [hT, HSx.out, List.length_append, Hlj.out]
                    · rw [hT, HOx.out]; rfl
                    · rw [hT, List.map_append]; exact ho9
                    · rw [hT, HSx.out, List.length_append, Hlj.out]; exact hs1
                    · rw [hT, HOx.out]; exact ho1
            · have n4 : (mk.kind == 4) = false := by simpa using k4
              have Hst := Lib.hid (mv_other (s := st) k1 k2 k3 k4)
              have HSx := HS
              have HOx := HO
              clear k1 k2 k3 k4
              go_wp2_with (at_builtin; refine wpList_append1 wq (by rfl) _ _ 23 (by rfl) w.heap.size 25 i1 _ 8 Try.underlying23 hi1 hy0 hy1 hy2 rfl _ _ _ (by rfl) Hrc.out (.int .i64 3) (by rfl) rfl hk1 (by decide) hwq0 ?_; intro v9 w9 ho9 hg9 hb9)
              go_wp2
              go_roundg (n - (k + 1))
              case measure => have := Hgk.out; omega
              case rel =>
                obtain ⟨A9, c9, rfl, _⟩ := own_form ho9
                have hT := HT.out
                rw [Hst.out] at hT
                have hs1 := World.ownsRow.kept Hrs.out hg9 (row_row Hrs.out Hrc.out (by decide))
                have ho1 := World.ownsRow.kept Hro.out hg9 (row_row Hro.out Hrc.out (by decide))
                have hb1 := (Hbe.out).grown hg9 hwq0 fun j hj => (World.ownsRow.lt Hrc.out j hj).1
                refine ⟨k + 1, A9, c9, As, cs, Ao, co, rfl, ?_, ?_, by go_num, by omega, by omega, ?_, ?_, ?_, hb1⟩
                · rw [hT, HSx.out]
                · rw [hT, HOx.out]
                · rw [hT, List.map_append]; exact ho9
                · rw [hT, HSx.out]; exact hs1
                · rw [hT, HOx.out]; exact ho1
    · have hnl : ¬ (k : Int) < (n : Int) := by omega
      have hke : k = ms.length := by omega
      have hte : ms.take k = ms := by rw [hke]; exact List.take_length
      have Hp := Lib.hid (show RefPost ms w (.returned (.tuple #[.slice Ac k cc, .slice As (safeOf (plays0 (ms.take k)).2).length cs, .slice Ao (openOf (plays0 (ms.take k)).2).length co, .int .i64 0])) wr from by
        rw [hte] at hrc hrs hro ⊢
        subst hke
        exact ⟨Ac, cc, As, cs, Ao, co, rfl, hrc, hrs, hro, hbe⟩)
      clear hgk hrc hrs hro hbe hke hte hlt
      generalize (safeOf (plays0 (ms.take k)).2).length = ls at *
      generalize (openOf (plays0 (ms.take k)).2).length = lo at *
      go_wp2_with fail
      refine ret_four rfl rfl rfl rfl rfl rfl ?_
      exact Hp.out
end Go.Proofs.Ythkbeliplibiaaa
