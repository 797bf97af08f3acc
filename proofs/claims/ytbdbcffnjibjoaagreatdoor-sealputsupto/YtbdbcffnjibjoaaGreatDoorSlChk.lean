/- seal.Check: what the call returns. -/
import Derived.Test.YtbdbcffnjibjoaaGreatDoorSlBlk
import Derived.Test.YtbdbcffnjibjoaaGreatDoorSlPath
import Derived.Test.YtbdbcffnjibjoaaGreatDoorSlEnc
import Derived.Test.YtbdbcffnjibjoaaGreatDoorSlConv
import Derived.Test.YtbdbcffnjibjoaaGreatDoorBunF
import Derived.Deep.DeepCutAuto
namespace Go.Proofs.YtbdbcffnjibjoaaGreatDoor
set_option linter.unusedVariables false
set_option linter.unusedSimpArgs false
open Go.RowKit
attribute [local go_sem high] str_mk
/-- What the signature that is there says. -/
def foundN (v p : JV) (pub : Int) : Int := if p.kind = 5 then (match sigD p.text with | some (r, s) => checkR pub (sTextL v).length (sTextL v) r s | none => 4) else 8
def chkN (v : JV) (u k : List UInt8) (pub : Int) : Int := if tapN v u k ≠ 0 then tapN v u k else match getAt [sigK, u, k] v with | some p => foundN v p pub | none => 8
theorem path_slice_all (g : Nat) (W : World) : (Instr.sliceAt 32 (.pointer (some ⟨g, 0, none⟩)) none none none).run Tryz.prog W = .ok (.slice (some ⟨g, 0, none⟩) 3 3) W := by
  have hu : Tryz.prog.underlying 32 = some (.array 3 9) := by kernel_rfl
  obtain ⟨i0, hi0, hz0, hz1, hz2⟩ := info_parts sl_info_str
  simp [Instr.sliceAt, Instr.sureAddr, run_underlying hu, Instr.sliceBounds, sizeOf, typeInfo, hi0, Addr.add]
theorem sgbox {w : World} {g : Nat} {t : TypeId} {a0 a1 : Value} (h : Blk w g t #[a0, a1]) :
    w.cell? ⟨g, 0, none⟩ = some a0 ∧ w.cell? ⟨g, 1, none⟩ = some a1 ∧ w.frozen? ⟨g, 0, none⟩ = false ∧ w.frozen? ⟨g, 1, none⟩ = false := ⟨h.cell 0, h.cell 1, h.frozen 0, h.frozen 1⟩
/-- What follows once find has answered; W: the world behind it, with the part in the box gb. -/
theorem JV.mk_text (k n : Int) (t : List UInt8) (ks : List (List UInt8)) (ps : List JV) : (JV.mk k n t ks ps).text = t := rfl
theorem VIn.text_ {w : World} {B : Nat} {v : JV} {k n : Int} {t : List UInt8} {r : List Value} (h : VIn w B v (.int .i64 k :: .int .i64 n :: str t :: r)) : v.text = t := by
  cases v; unfold VIn at h; obtain ⟨_, _, _, _, _, e, _⟩ := h
  injection e with _ e; injection e with _ e; injection e with e _
  unfold str at e
  injection e with e
  injection e with e
  have h := congrArg Array.toList e
  simp at h
  exact h.symm
/-- What find has answered, of the value o. -/
def FD (o : Option JV) (b : Bool) (k2 : Int) (t2 : List UInt8) : Prop := (o = none ∧ b = false) ∨ ∃ p, o = some p ∧ b = true ∧ k2 = p.kind ∧ t2 = p.text
def FDPost (o : Option JV) (W0 W : World) (e : Ending) (w' : World) : Prop :=
  ∃ b k2 n2 t2 Ak2 nk2 ck2 Ap2 np2 cp2, e = .returned (.tuple #[.agg #[.int .i64 k2, .int .i64 n2, str t2, .slice Ak2 nk2 ck2, .slice Ap2 np2 cp2], .bool b]) ∧ FD o b k2 t2 ∧ Below W.heap.size W w' ∧ Below W0.heap.size W0 w'
theorem find_fd {v : JV} {cs : List Value} {keys : List (List UInt8)} {A : Option Addr} {c : Nat} {W0 w : World} {B : Nat} (hW : Below W0.heap.size W0 w) (hB : B ≤ w.heap.size) (hv : VIn w B v cs) (hfv : Fine v) (hh : Holds w w.heap.size 1 A keys.length (keys.map str)) (hl : keys.length ≤ 1048576) :
    Calls Tryz.prog 24 #[.agg cs.toArray, .slice A keys.length c] w (FDPost (getAt keys v) W0 w) := by
  refine (find_any v cs keys A c w B hB hv hfv hh hl).mono ?_
  rintro e w' ⟨hb, ⟨h, rfl⟩ | ⟨p, cs', h, rfl, hv', _⟩⟩
  · exact ⟨false, 0, 0, [], none, 0, 0, none, 0, 0, rfl, .inl ⟨h, rfl⟩, hb, hW.trans (hb.mono hW.size)⟩
  · obtain ⟨k, n, t, Ak, nk, ck, Ap, np, cp, rfl⟩ := hv'.form
    have hk := hv'.kind
    have ht := hv'.text_
    exact ⟨true, k, n, t, Ak, nk, ck, Ap, np, cp, rfl, .inr ⟨p, h, rfl, hk.symm, ht.symm⟩, hb, hW.trans (hb.mono hW.size)⟩
end Go.Proofs.YtbdbcffnjibjoaaGreatDoor
