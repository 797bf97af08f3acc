/- Device lists: addUpdate. -/
import Derived.Test.YtmlgaedhfannmaaDvFn
import Derived.Test.YtmlgaedhfannmaaDvDel
import Derived.Test.YtmlgaedhfannmaaInsD
namespace Go.Proofs.Ytmlgaedhfannmaa
set_option linter.unusedVariables false
set_option linter.unusedSimpArgs false
open Go.RowKit
theorem dvN_below {B : Nat} {w w' : World} {us : List Uc} {ds : List Rw} {vu vd : Value} (h : DvS B w us ds vu vd) (hb : Beside (DvN B vu vd) w w') : Below B w w' :=
  hb.below (fun k hk => by
    rcases hk with e | e | e
    · omega
    · have := (World.ownsRow.lt h.ru k e).1; omega
    · have := (World.ownsRow.lt h.rd k e).1; omega) (by have := h.size; omega)
theorem wrap_up {n : Nat} (h : n ≤ 1000) : IntKind.i64.wrap ((n : Int) + 1) = (n : Int) + 1 := IntWalk.i64_in _ (by omega)
set_option maxHeartbeats 4000000 in
set_option maxRecDepth 100000 in
theorem addUpdate_any (B : Nat) (us : List Uc) (ds : List Rw) (vu vd : Value) (k v : List UInt8) (g : Bool) (w : World) (h : DvS B w us ds vu vd) (hn : us.length + 1 ≤ 1000) :
    Calls Try.prog 75 #[.pointer (some ⟨B, 0, none⟩), .bool g, .agg #[str k, str v]] w fun e w' =>
      ∃ vu', e = .returned (.tuple #[]) ∧ DvS B w' (us ++ [⟨(us.length : Int) + 1, us.length, k, v, g⟩]) ds vu' vd ∧ Beside (DvN B vu vd) w w' := by
  obtain ⟨A, c, rfl, hA⟩ := LIn.own ucL_len h.ru
  obtain ⟨W, hW⟩ : ∃ W, w.alloc (.cells #[str k, str v] 42) = W := ⟨_, rfl⟩
  have hWB := Blk.new w 42 #[str k, str v]
  have hWb : Below w.heap.size w W := by rw [← hW]; exact (Below.refl _ _).alloc (Nat.le_refl _) _
  rw [hW] at hWB
  have x0 : w.cell? ⟨B, 0, none⟩ = some (.slice A us.length c) := h.box.cell 0
  have y0 : W.cell? ⟨B, 0, none⟩ = some (.slice A us.length c) := (h.below hWb).box.cell 0
  have hBw : B < w.heap.size := h.box.lt
  -- the world in which the order is drawn
  obtain ⟨Wd, hWd⟩ : ∃ Wd, W.drew = Wd := ⟨_, rfl⟩
  have hbd : Below W.heap.size W Wd := by rw [← hWd]; exact below_drewN (Below.refl _ _) 1
  have hd := (h.below hWb).below hbd
  have hWBd := hWB.below hbd hWB.lt
  have hwd : Below w.heap.size w Wd := hWb.trans (hbd.mono hWb.size)
  obtain ⟨v', wf, hrun, f0, f1, hB5, hbs5, hn5, hg5⟩ := hd.push ⟨(us.length : Int) + 1, us.length, k, v, g⟩ #[.int .i64 ((us.length : Int) + 1), .int .i64 (us.length : Int), str k, str v, .bool g] rfl (by omega)
  obtain ⟨A', c', rfl, -⟩ := own_form hB5.ru
  generalize (us ++ [(⟨(us.length : Int) + 1, us.length, k, v, g⟩ : Uc)]).length = n' at *
  have hne : ∀ b, (Value.slice A us.length c).ownBlock = some b → b < w.heap.size := fun b hb => (World.ownsRow.lt h.ru b hb).2
  have hWB5 := hWBd.grown hg5 (fun e => by have := hne _ e.symm; omega)
  have hWBa := hWBd.alloc (.cells #[.int .i64 ((us.length : Int) + 1), .int .i64 (us.length : Int), str k, str v, .bool g] 44)
  have hba := hd.box.alloc (.cells #[.int .i64 ((us.length : Int) + 1), .int .i64 (us.length : Int), str k, str v, .bool g] 44)
  have hS0 : Wd.cell? ⟨B, 0, none⟩ = some (.slice A us.length c) ∧ Wd.cell? ⟨w.heap.size, 0, none⟩ = some (str k) ∧ Wd.cell? ⟨w.heap.size, 1, none⟩ = some (str v) := ⟨hd.box.cell 0, hWBd.cell 0, hWBd.cell 1⟩
  have hS6 : (Wd.alloc (.cells #[.int .i64 ((us.length : Int) + 1), .int .i64 (us.length : Int), str k, str v, .bool g] 44)).cell? ⟨B, 0, none⟩ = some (.slice A us.length c) ∧ (Wd.alloc (.cells #[.int .i64 ((us.length : Int) + 1), .int .i64 (us.length : Int), str k, str v, .bool g] 44)).cell? ⟨w.heap.size, 0, none⟩ = some (str k) ∧ (Wd.alloc (.cells #[.int .i64 ((us.length : Int) + 1), .int .i64 (us.length : Int), str k, str v, .bool g] 44)).cell? ⟨w.heap.size, 1, none⟩ = some (str v) :=
    ⟨hba.cell 0, hWBa.cell 0, hWBa.cell 1⟩
  have hS7 : wf.cell? ⟨B, 0, none⟩ = some (.slice A us.length c) ∧ wf.cell? ⟨w.heap.size, 0, none⟩ = some (str k) ∧ wf.cell? ⟨w.heap.size, 1, none⟩ = some (str v) := ⟨f0, hWB5.cell 0, hWB5.cell 1⟩
  have Hfin := Lib.hid (show ∃ vu', Ending.returned (.tuple #[]) = .returned (.tuple #[]) ∧ DvS B (wf.setCell ⟨B, 0, none⟩ (.slice A' n' c')) (us ++ [⟨(us.length : Int) + 1, us.length, k, v, g⟩]) ds vu' vd ∧ Beside (DvN B (.slice A us.length c) vd) w (wf.setCell ⟨B, 0, none⟩ (.slice A' n' c')) from
    ⟨.slice A' n' c', rfl, hB5, (Beside.of_below hwd).trans hbs5⟩)
  have hnb : us.length ≤ 1000 := by omega
  have hwr : IntKind.i64.wrap ((us.length : Int) + 1) = (us.length : Int) + 1 := wrap_up hnb
  clear hB5 hbs5 hn5 hg5 hne hWB5 hWBa hba hwd hWBd hd hbd hWB hWb hA h
  generalize us.length = n at *
  go_enter Try.func75, Try.ntmps75
  go_wp2_with fail
  refine region_S (fun w' => w'.cell? ⟨B, 0, none⟩ = some (.slice A n c) ∧ w'.cell? ⟨w.heap.size, 0, none⟩ = some (str k) ∧ w'.cell? ⟨w.heap.size, 1, none⟩ = some (str v)) [15] (by kernel_rfl) ?_
  try rw [hW]
  rw [hWd]
  refine anyS_take 0 (v := .pointer (some ⟨B, 0, none⟩)) rfl (by kernel_rfl) (by kernel_rfl) (by kernel_rfl) (by kernel_rfl) (fun _ _ _ h => h) (.inl ⟨by kernel_rfl, fun w' hS' => by kernel_rfl⟩) hS0 ?_
  refine anyS_take 1 (v := .pointer (some ⟨B, 0, none⟩)) rfl (by kernel_rfl) (by kernel_rfl) (by kernel_rfl) (by kernel_rfl) (fun _ _ _ h => h) (.inl ⟨by kernel_rfl, fun w' hS' => by kernel_rfl⟩) hS0 ?_
  refine anyS_take 2 (v := .pointer (some ⟨B, 0, none⟩)) rfl (by kernel_rfl) (by kernel_rfl) (by kernel_rfl) (by kernel_rfl) (fun _ _ _ h => h) (.inl ⟨by kernel_rfl, fun w' hS' => by go_simp⟩) hS0 ?_
  refine anyS_take 3 (v := .pointer (some ⟨B, 0, none⟩)) rfl (by kernel_rfl) (by kernel_rfl) (by kernel_rfl) (by kernel_rfl) (fun _ _ _ h => h) (.inl ⟨by kernel_rfl, fun w' hS' => by go_simp⟩) hS0 ?_
  refine anyS_take 4 (v := .slice A n c) rfl (by kernel_rfl) (by kernel_rfl) (by kernel_rfl) (by kernel_rfl) (fun _ _ _ h => h) (.inl ⟨by kernel_rfl, fun w' hS' => by obtain ⟨s0, s1, s2⟩ := hS'; go_simp⟩) hS0 ?_
  refine anyS_take 5 (v := .int .i64 (n : Int)) rfl (by kernel_rfl) (by kernel_rfl) (by kernel_rfl) (by kernel_rfl) (fun _ _ _ h => h) (.inl ⟨by kernel_rfl, fun w' hS' => by kernel_rfl⟩) hS0 ?_
  refine anyS_take 6 (v := .int .i64 ((n : Int) + 1)) rfl (by kernel_rfl) (by kernel_rfl) (by kernel_rfl) (by kernel_rfl) (fun _ _ _ h => h) (.inl ⟨by kernel_rfl, fun w' hS' => by go_simp⟩) hS0 ?_
  refine anyS_take 7 (v := .int .i64 (n : Int)) rfl (by kernel_rfl) (by kernel_rfl) (by kernel_rfl) (by kernel_rfl) (fun _ _ _ h => h) (.inl ⟨by kernel_rfl, fun w' hS' => by kernel_rfl⟩) hS0 ?_
  refine anyS_take 8 (v := .agg #[str k, str v]) rfl (by kernel_rfl) (by kernel_rfl) (by kernel_rfl) (by kernel_rfl) (fun _ _ _ h => h) (.inl ⟨by kernel_rfl, fun w' hS' => by obtain ⟨s0, s1, s2⟩ := hS'; go_simp⟩) hS0 ?_
  refine anyS_take 9 (v := .bool g) rfl (by kernel_rfl) (by kernel_rfl) (by kernel_rfl) (by kernel_rfl) (fun _ _ _ h => h) (.inl ⟨by kernel_rfl, fun w' hS' => by kernel_rfl⟩) hS0 ?_
  refine anyS_take 10 (v := .agg #[.int .i64 ((n : Int) + 1), .int .i64 (n : Int), str k, str v, .bool g]) rfl (by kernel_rfl) (by kernel_rfl) (by kernel_rfl) (by kernel_rfl) (fun _ _ _ h => h) (.inl ⟨by kernel_rfl, fun w' hS' => by go_simp⟩) hS0 ?_
  refine anyS_one 11 rfl (by kernel_rfl) rfl ?_
  intro K6 hK6
  go_simp
  refine hK6 _ _ ⟨fun _ => hS6, ?_⟩
  refine anyS_one 12 rfl (by kernel_rfl) rfl ?_
  intro K7 hK7
  refine oper_app _ _ _ rfl _ _ (by rfl) (by rfl) hrun ?_
  refine hK7 _ _ ⟨fun _ => hS7, ?_⟩
  refine anyS_one 13 rfl (by kernel_rfl) rfl ?_
  intro K8 hK8
  go_simp
  refine hK8 _ _ ⟨fun _ => hS7, ?_⟩
  refine anyS_one 14 rfl (by kernel_rfl) rfl ?_
  intro K9 hK9
  go_simp
  refine hK9 _ _ ⟨fun _ => hS7, ?_⟩
  refine anyS_one 15 rfl (by kernel_rfl) rfl ?_
  intro K10 hK10
  have c0 := hS7.1
  go_simp
  refine hK10 _ _ ⟨fun h => absurd (List.mem_singleton.2 rfl) h, ?_⟩
  refine anyS_done (by kernel_rfl) ?_
  clear hK6 hK7 hK8 hK9 hK10 hS0 hS6 hS7 hrun c0
  go_wp2_with fail
  go_end0
  obtain ⟨u, -, q⟩ := Hfin.out
  exact ⟨u, rfl, q⟩
end Go.Proofs.Ytmlgaedhfannmaa
