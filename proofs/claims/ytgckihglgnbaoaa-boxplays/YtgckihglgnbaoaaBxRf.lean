/- The message box: the document's own function: what it keeps in memory. -/
import Derived.Test.YtgckihglgnbaoaaBxPlay
namespace Go.Proofs.Ytgckihglgnbaoaa
set_option linter.unusedVariables false
set_option linter.unusedSimpArgs false
open Go.RowKit
/-- The post, what it comes to, all that was accepted, and the results so far. -/
structure RbM (B pb : Nat) (w : World) (p : Pt) (acc : List Pt) (out : List Gt) (ml : List Ml) (cd nx : Int) (va vo vm : Value) : Prop where
  post : Blk w pb 43 #[.int .i64 p.kind, str p.frm, .int .i64 p.txn, str p.body, .int .i64 p.since]
  got : Blk w (pb + 1) 36 #[.int .i64 cd, .int .i64 nx, vm]
  re : w.ownsRow B 43 5 va acc.length (pcK ptL acc)
  ro : GsO w B vm vo out
  rm : w.ownsRow B 38 3 vm ml.length (pcK mlL ml)
  na : va.ownBlock ≠ some pb
  no : vo.ownBlock ≠ some (pb + 1)
  lo : B ≤ pb
section
variable {B pb : Nat} {w w' : World} {p : Pt} {acc : List Pt} {out : List Gt} {ml : List Ml} {cd nx : Int} {va vo vm : Value}
theorem RbM.size (h : RbM B pb w p acc out ml cd nx va vo vm) : pb + 1 < w.heap.size := h.got.lt
theorem RbM.below (h : RbM B pb w p acc out ml cd nx va vo vm) (hb : Below w.heap.size w w') : RbM B pb w' p acc out ml cd nx va vo vm :=
  ⟨h.post.below hb h.post.lt, h.got.below hb h.got.lt, own_below h.re hb, h.ro.below hb, own_below h.rm hb, h.na, h.no, h.lo⟩
theorem GsO.keep {base : Nat} {vw vw' v : Value} {l : List Gt} (h : GsO w base vw v l)
    (hk : ∀ {e size n : Nat} {u : Value} {xs : List Value}, (e = 38 ∧ Apt u vw) ∨ (e = 36 ∧ u = v) → w.ownsRow base e size u n xs → w'.ownsRow base e size u n xs)
    (hv : ∀ u n xs, w.ownsRow base 38 3 u n xs → Apt u vw → Apt u vw') : GsO w' base vw' v l := by
  obtain ⟨pc, h1, h2⟩ := h
  refine ⟨pc, hk (.inr ⟨rfl, rfl⟩) h1, h2.imp fun x c hx => ?_⟩
  obtain ⟨u, rfl, h3, h4⟩ := hx
  exact ⟨u, rfl, hk (.inl ⟨rfl, h4⟩) h3, hv _ _ _ h3 h4⟩
theorem own_other {base e size n g j : Nat} {v u : Value} {xs : List Value} (h : w.ownsRow base e size v n xs) (hg : v.ownBlock ≠ some g) : (w.setCell ⟨g, j, none⟩ u).ownsRow base e size v n xs :=
  own_kept h fun k hk => Below.heap_setCell w _ _ k (by show k ≠ g; rintro rfl; exact hg hk)
/-- A store of the code or of the total. -/
theorem RbM.setG (h : RbM B pb w p acc out ml cd nx va vo vm) (j : Nat) (u : Value) (cd' nx' : Int) (hcs : (#[Value.int .i64 cd, .int .i64 nx, vm] : Array Value).setIfInBounds j u = #[.int .i64 cd', .int .i64 nx', vm]) : RbM B pb (w.setCell ⟨pb + 1, j, none⟩ u) p acc out ml cd' nx' va vo vm := by
  refine ⟨h.post.far (by show pb ≠ pb + 1; omega) _, by rw [← hcs]; exact h.got.set_ j u, own_other h.re (apt_box h.re h.got (by decide)), h.ro.keep (fun he hr => own_other hr ?_) (fun _ _ _ _ h => h), own_other h.rm (apt_box h.rm h.got (by decide)), h.na, h.no, h.lo⟩
  rcases he with ⟨rfl, _⟩ | ⟨rfl, rfl⟩
  · exact apt_box hr h.got (by decide)
  · exact h.no
theorem RbM.code (h : RbM B pb w p acc out ml cd nx va vo vm) (c : Int) : RbM B pb (w.setCell ⟨pb + 1, 0, none⟩ (.int .i64 c)) p acc out ml c nx va vo vm := h.setG 0 _ c nx (by simp)
theorem RbM.next (h : RbM B pb w p acc out ml cd nx va vo vm) (c : Int) : RbM B pb (w.setCell ⟨pb + 1, 1, none⟩ (.int .i64 c)) p acc out ml cd c va vo vm := h.setG 1 _ cd c (by simp)
/-- One post more that was accepted. -/
theorem RbM.pushA (h : RbM B pb w p acc out ml cd nx va vo vm) (x : Pt) (cs : Array Value) (hcs : cs = (ptL x).toArray) (hn : acc.length + 1 ≤ 1048576) :
    ∃ v' wf, (Builtin.append_ #[30, 30] 30 #[va, .slice (some ⟨w.heap.size, 0, none⟩) 1 1]).run Try.prog (w.alloc (.cells cs 43)) = .ok v' wf ∧
      RbM B pb wf p (acc ++ [x]) out ml cd nx v' vo vm ∧ Below B w wf := by
  have hBs : B ≤ w.heap.size := by have := h.size; have := h.lo; omega
  obtain ⟨v', wf, hrun, ho, hg, hor⟩ := run_app_el (P := Try.prog) (enc := ptL) ptL_len ptL_one (by omega) Try.underlying30 info_post rfl (by omega) w B acc.length va acc x cs hcs h.re hn hBs
  have hgw : w.grownBy wf va.ownBlock := (World.grownBy_alloc w _ _).trans hg
  refine ⟨v', wf, hrun, ⟨h.post.grown hgw (fun e => h.na e.symm), h.got.grown hgw (fun e => apt_box h.re h.got (by decide) e.symm), by simpa using ho, h.ro.keep (fun he hr => own_apart hr hgw fun g h1 h2 => ?_) (fun _ _ _ _ h => h), own_apart h.rm hgw fun g h1 h2 => (apt_types h.rm h.re (by decide)) g h1 h2, ?_, h.no, h.lo⟩, (Below.refl _ _).grown hgw hBs fun g hg => (World.ownsRow.lt h.re g hg).1⟩
  · rcases he with ⟨rfl, _⟩ | ⟨rfl, rfl⟩
    · exact (apt_types hr h.re (by decide)) g h1 h2
    · exact (apt_types hr h.re (by decide)) g h1 h2
  · intro e
    rcases hor with e1 | e1
    · exact h.na (e1.symm.trans e)
    · rw [e] at e1; injection e1 with e1; have := h.size; omega
/-- One message more: its run, then the store. -/
theorem RbM.pushM (h : RbM B pb w p acc out ml cd nx va vo vm) (x : Ml) (cs : Array Value) (hcs : cs = (mlL x).toArray) (hn : ml.length + 1 ≤ 1048576) :
    ∃ A c wf, (Builtin.append_ #[34, 34] 34 #[vm, .slice (some ⟨w.heap.size, 0, none⟩) 1 1]).run Try.prog (w.alloc (.cells cs 38)) = .ok (.slice A (ml.length + 1) c) wf ∧
      Blk wf (pb + 1) 36 #[.int .i64 cd, .int .i64 nx, vm] ∧ w.grownBy wf vm.ownBlock ∧
      RbM B pb (wf.setCell ⟨pb + 1, 2, none⟩ (.slice A (ml.length + 1) c)) p acc out (ml ++ [x]) cd nx va vo (.slice A (ml.length + 1) c) ∧ Below B w (wf.setCell ⟨pb + 1, 2, none⟩ (.slice A (ml.length + 1) c)) := by
  have hBs : B ≤ w.heap.size := by have := h.size; have := h.lo; omega
  obtain ⟨v', wf, hrun, ho, hg, hor⟩ := run_app_el (P := Try.prog) (enc := mlL) mlL_len mlL_one (by omega) Try.underlying34 info_mail rfl (by omega) w B ml.length vm ml x cs hcs h.rm hn hBs
  have hlx : (ml ++ [x]).length = ml.length + 1 := by simp
  obtain ⟨A, c, rfl, -⟩ := own_form ho
  have hgw : w.grownBy wf vm.ownBlock := (World.grownBy_alloc w _ _).trans hg
  have hgot := h.got.grown hgw (fun e => apt_box h.rm h.got (by decide) e.symm)
  have hre := own_apart h.re hgw fun g h1 h2 => (apt_types h.re h.rm (by decide)) g h1 h2
  have hne : (Value.slice A (ml.length + 1) c).ownBlock ≠ some (pb + 1) := apt_box ho hgot (by decide)
  refine ⟨A, c, wf, hrun, hgot, hgw, ⟨(h.post.grown hgw (fun e => apt_box h.rm h.post (by decide) e.symm)).far (by show pb ≠ pb + 1; omega) _, by simpa using hgot.set_ 2 (.slice A (ml.length + 1) c), own_other hre (apt_box hre hgot (by decide)), h.ro.keep (fun he hr => ?_) (fun u n xs hu ha g hg1 hg2 => ?_), own_other (by rw [hlx]; exact ho) hne, h.na, h.no, h.lo⟩, ((Below.refl _ _).grown hgw hBs fun g hg => (World.ownsRow.lt h.rm g hg).1).setCell (p := ⟨pb + 1, 2, none⟩) (by have := h.lo; show B ≤ pb + 1; omega) _⟩
  · rcases he with ⟨rfl, ha⟩ | ⟨rfl, rfl⟩
    · have h1 := own_apart hr hgw fun g h1 h2 => ha g h1 h2
      exact own_other h1 (apt_box h1 hgot (by decide))
    · have h1 := own_apart hr hgw fun g h1 h2 => (apt_types hr h.rm (by decide)) g h1 h2
      exact own_other h1 h.no
  · rcases hor with e1 | e1
    · exact ha g hg1 (e1 ▸ hg2)
    · rw [hg2] at e1; injection e1 with e1
      have := (World.ownsRow.lt hu g hg1).2
      omega
/-- Behind the round: the result is put in. -/
theorem RbM.pushO (h : RbM B pb w p acc out ml cd nx va vo vm) (hn : out.length + 1 ≤ 1048576) (cs : Array Value) (hcs : cs = #[.int .i64 cd, .int .i64 nx, vm]) :
    ∃ v' wf, (Builtin.append_ #[31, 31] 31 #[vo, .slice (some ⟨w.heap.size, 0, none⟩) 1 1]).run Try.prog (w.alloc (.cells cs 36)) = .ok v' wf ∧
      wf.ownsRow B 43 5 va acc.length (pcK ptL acc) ∧ GsO wf B (.slice none 0 0) v' (out ++ [⟨cd, nx, ml⟩]) ∧ Below B w wf := by
  have hBs : B ≤ w.heap.size := by have := h.size; have := h.lo; omega
  have h0 : GsO w B (.slice none 0 0) vo out := h.ro.keep (fun _ hr => hr) fun u n xs _ _ g _ hg => by simp [Value.ownBlock] at hg
  obtain ⟨v', wf, hrun, hgs, hgw, -⟩ := h0.put ⟨cd, nx, ml⟩ h.rm (fun g _ hg => by simp [Value.ownBlock] at hg) hn hBs cs hcs
  obtain ⟨pcr, hro, -⟩ := h.ro
  exact ⟨v', wf, hrun, own_apart h.re hgw fun g h1 h2 => (apt_types h.re hro (by decide)) g h1 h2, hgs, (Below.refl _ _).grown hgw hBs fun g hg => (World.ownsRow.lt hro g hg).1⟩
/-- The start of a round. -/
theorem rbM0 (w0 : World) (hB : B ≤ w0.heap.size) (hre : w0.ownsRow B 43 5 va acc.length (pcK ptL acc)) (hro : GsO w0 B (.slice none 0 0) vo out) :
    RbM B w0.heap.size ((w0.alloc (.cells #[.int .i64 p.kind, str p.frm, .int .i64 p.txn, str p.body, .int .i64 p.since] 43)).alloc (.cells #[.int .i64 0, .int .i64 0, .slice none 0 0] 36)) p acc out [] 0 0 va vo (.slice none 0 0) := by
  have hb : Below w0.heap.size w0 ((w0.alloc (.cells #[.int .i64 p.kind, str p.frm, .int .i64 p.txn, str p.body, .int .i64 p.since] 43)).alloc (.cells #[.int .i64 0, .int .i64 0, .slice none 0 0] 36)) := ((Below.refl _ _).alloc (Nat.le_refl _) _).alloc (by simp) _
  have hB2 := Blk.new (w0.alloc (.cells #[.int .i64 p.kind, str p.frm, .int .i64 p.txn, str p.body, .int .i64 p.since] 43)) 36 #[.int .i64 0, .int .i64 0, .slice none 0 0]
  rw [show (w0.alloc (.cells #[.int .i64 p.kind, str p.frm, .int .i64 p.txn, str p.body, .int .i64 p.since] 43)).heap.size = w0.heap.size + 1 by simp] at hB2
  obtain ⟨pcr, hr, -⟩ := id hro
  exact ⟨(Blk.new _ _ _).alloc _, hB2, own_below hre hb, hro.below hb, World.ownsRow_nil _ _ _ _, fun e => by have := (World.ownsRow.lt hre _ e).2; omega, fun e => by have := (World.ownsRow.lt hr _ e).2; omega, hB⟩
end
end Go.Proofs.Ytgckihglgnbaoaa
