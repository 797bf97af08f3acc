/- One-time keys: the four maps in memory. -/
import Derived.Test.YtgckihglgnbaoaaKyMap
import Derived.Test.YtgckihglgnbaoaaBunA
namespace Go.Proofs.Ytgckihglgnbaoaa
set_option linter.unusedVariables false
set_option linter.unusedSimpArgs false
open Go.RowKit
open Go.Maps (Keyed)

def ekN (n : KNm) : Value := .agg #[str n.1, str n.2]
def okN (n : KNm) : Prop := n.1.length ≤ maxLen ∧ n.2.length ≤ maxLen
def ekC (x : List UInt8 × Int) : Value := .agg #[str x.1, .int .i64 x.2]
def okC (x : List UInt8 × Int) : Prop := x.1.length ≤ maxLen ∧ -9223372036854775808 ≤ x.2 ∧ x.2 ≤ 9223372036854775807
def okS (S : List UInt8) : Prop := S.length ≤ maxLen
def evK (k : Kv) : Value := .agg #[str k.id, str k.body, .bool k.spare]

theorem str_inj {a b : List UInt8} (h : str a = str b) : a = b := by
  unfold str at h
  injection h with h
  injection h with h
  simpa using h
theorem laidOut : laidOutB Try.prog = true := by kernel_rfl
theorem rowN : (96 : TypeId) < Try.prog.types.size := of_decide_eq_true (by kernel_rfl)
theorem rowC : (92 : TypeId) < Try.prog.types.size := of_decide_eq_true (by kernel_rfl)
theorem lawN : Keyed Try.prog 96 := Keyed.of_law (deep_law_laid laidOut (m := 3) (by omega) rowN (by kernel_rfl) (by rw [Try.underlying96]))
theorem lawC : Keyed Try.prog 92 := Keyed.of_law (deep_law_laid laidOut (m := 3) (by omega) rowC (by kernel_rfl) (by rw [Try.underlying92]))
theorem types_two : ∃ d, Try.prog.types.size + 1 = d + 2 := ⟨Try.prog.types.size - 1, by have h : (96 : Nat) < Try.prog.types.size := rowN; omega⟩
theorem lits_str {P : Program} {e : TypeId} (he : P.underlying e = some .string) (a : List UInt8) (ha : a.length ≤ maxLen) (d : Nat) : P.keyLits (d + 1) e [str a] = some [.string a] := by
  have ha' : (⟨a.toArray⟩ : ByteArray).size ≤ maxLen := ha
  unfold str
  simp [Program.keyLits, he, ha']
theorem lits_int {P : Program} {e : TypeId} (he : P.underlying e = some (.int .i64)) (b : Int) (hb : (Lit.int .i64 b).wf = true) (d : Nat) : P.keyLits (d + 1) e [.int .i64 b] = some [.int .i64 b] := by
  simp [Program.keyLits, he, hb]
theorem keyOf_two {P : Program} {k : TypeId} {f1 f2 : Field} (hk : P.underlying k = some (.struct #[f1, f2])) (n1 : (f1.name != "_") = true) (n2 : (f2.name != "_") = true) (o1 : f1.offset = 0) (o2 : f2.offset = 1) (hkt : P.keyType k = true) (hc : P.cellsOf k = 2) (c1 : P.cellsOf f1.type = 1) (c2 : P.cellsOf f2.type = 1)
    {v1 v2 : Value} {l1 l2 : Lit} (h1 : ∀ d, P.keyLits (d + 1) f1.type [v1] = some [l1]) (h2 : ∀ d, P.keyLits (d + 1) f2.type [v2] = some [l2]) (hs : ∃ d, P.types.size + 1 = d + 2) : ∃ l, keyOf P k (.agg #[v1, v2]) = some l := by
  obtain ⟨d, hd⟩ := hs
  have hf : (Value.agg #[v1, v2]).formed P k = true := by simp [Value.formed, hk, hc]
  have hl : P.keyLits (d + 2) k [v1, v2] = some [l1, l2] := by
    rw [show d + 2 = (d + 1) + 1 from rfl]
    unfold Program.keyLits
    simp [hk, hc, n1, n2, o1, o2, c1, c2, h1, h2]
  unfold keyOf
  rw [hk]
  simp only [hkt, hf, Bool.and_self, if_true, hd, Value.cells]
  rw [hl]
  exact ⟨_, rfl⟩
theorem keyN : KeyEnc Try.prog 96 ekN okN where
  law := lawN
  of x hx := keyOf_two Try.underlying96 rfl rfl rfl rfl (by kernel_rfl) (by kernel_rfl) (by kernel_rfl) (by kernel_rfl) (lits_str Try.underlying9 x.1 hx.1) (lits_str Try.underlying9 x.2 hx.2) types_two
  inj x y h := by
    unfold ekN at h
    injection h with h
    simp only [Array.mk.injEq, List.cons.injEq, and_true] at h
    exact Prod.ext (str_inj h.1) (str_inj h.2)
theorem keyC : KeyEnc Try.prog 92 ekC okC where
  law := lawC
  of x hx := keyOf_two Try.underlying92 rfl rfl rfl rfl (by kernel_rfl) (by kernel_rfl) (by kernel_rfl) (by kernel_rfl) (lits_str Try.underlying9 x.1 hx.1) (lits_int Try.underlying3 x.2 (WalkArith.wf_i64 hx.2)) types_two
  inj x y h := by
    unfold ekC at h
    injection h with h
    simp only [Array.mk.injEq, List.cons.injEq, and_true, Value.int.injEq, true_and] at h
    exact Prod.ext (str_inj h.1) h.2
theorem keyS : KeyEnc Try.prog 9 str okS where
  law := Go.Maps.string_keyed Try.underlying9
  of x hx := ⟨_, Go.WideMaps.keyOf_string_mk Try.underlying9 (show (⟨x.toArray⟩ : ByteArray).size ≤ maxLen from hx)⟩
  inj x y h := str_inj h

/-- The state behind a pointer to block h + 4: its four maps lie in the blocks h to h + 3. -/
structure KsIn (w : World) (h : Nat) (s : Ks) : Prop where
  box : Blk w (h + 4) 77 #[.map (some h), .map (some (h + 1)), .map (some (h + 2)), .map (some (h + 3))]
  up : MapIs w h ekN str okN s.up
  gv : MapIs w (h + 1) ekN Value.bool okN s.gv
  sp : MapIs w (h + 2) str evK okS s.sp
  cl : MapIs w (h + 3) ekC evK okC s.cl
/-- The blocks of the maps. -/
def Four (h : Nat) (b : Nat) : Prop := h ≤ b ∧ b < h + 4
theorem KsIn.ok {w : World} {h : Nat} {s : Ks} (k : KsIn w h s) : OkK s := ⟨k.up.once, k.gv.once, k.sp.once, k.cl.once⟩
theorem KsIn.lt {w : World} {h : Nat} {s : Ks} (k : KsIn w h s) : h + 4 < w.heap.size := k.box.lt
theorem KsIn.beside {w w' : World} {h : Nat} {s : Ks} {N : Nat → Prop} (k : KsIn w h s) (hg : Beside N w w') (hn : ∀ b, h ≤ b → b ≤ h + 4 → ¬ N b) : KsIn w' h s :=
  ⟨(hg.block _ k.box.lt (hn _ (by omega) (by omega))).trans k.box, k.up.beside hg (hn _ (by omega) (by omega)), k.gv.beside hg (hn _ (by omega) (by omega)), k.sp.beside hg (hn _ (by omega) (by omega)), k.cl.beside hg (hn _ (by omega) (by omega))⟩
theorem KsIn.below {w w' : World} {h B : Nat} {s : Ks} (k : KsIn w h s) (hg : Below B w w') (hB : h + 4 < B) : KsIn w' h s :=
  ⟨(hg.block _ hB).trans k.box, k.up.below hg (by omega), k.gv.below hg (by omega), k.sp.below hg (by omega), k.cl.below hg (by omega)⟩
theorem KsIn.below' {w w' : World} {h : Nat} {s : Ks} (k : KsIn w h s) (hg : Below w.heap.size w w') : KsIn w' h s := k.below hg k.lt
theorem KsIn.put_up {w w' : World} {h : Nat} {s : Ks} {L : List (KNm × List UInt8)} (k : KsIn w h s) (hm : MapIs w' h ekN str okN L) (hg : Beside (fun i => i = h) w w') : KsIn w' h { s with up := L } :=
  ⟨(hg.block _ k.box.lt (by omega)).trans k.box, hm, k.gv.beside hg (by omega), k.sp.beside hg (by omega), k.cl.beside hg (by omega)⟩
theorem KsIn.put_gv {w w' : World} {h : Nat} {s : Ks} {L : List (KNm × Bool)} (k : KsIn w h s) (hm : MapIs w' (h + 1) ekN Value.bool okN L) (hg : Beside (fun i => i = h + 1) w w') : KsIn w' h { s with gv := L } :=
  ⟨(hg.block _ k.box.lt (by omega)).trans k.box, k.up.beside hg (by omega), hm, k.sp.beside hg (by omega), k.cl.beside hg (by omega)⟩
theorem KsIn.put_sp {w w' : World} {h : Nat} {s : Ks} {L : List (List UInt8 × Kv)} (k : KsIn w h s) (hm : MapIs w' (h + 2) str evK okS L) (hg : Beside (fun i => i = h + 2) w w') : KsIn w' h { s with sp := L } :=
  ⟨(hg.block _ k.box.lt (by omega)).trans k.box, k.up.beside hg (by omega), k.gv.beside hg (by omega), hm, k.cl.beside hg (by omega)⟩
theorem KsIn.put_cl {w w' : World} {h : Nat} {s : Ks} {L : List ((List UInt8 × Int) × Kv)} (k : KsIn w h s) (hm : MapIs w' (h + 3) ekC evK okC L) (hg : Beside (fun i => i = h + 3) w w') : KsIn w' h { s with cl := L } :=
  ⟨(hg.block _ k.box.lt (by omega)).trans k.box, k.up.beside hg (by omega), k.gv.beside hg (by omega), k.sp.beside hg (by omega), hm⟩
end Go.Proofs.Ytgckihglgnbaoaa
