/- Words for memory that the proofs of this project share: bytes as values, a slice that reads as a list of cells, an append of one cell onto a row of the call's own. Nothing of the program is named here. -/
import Derived.WalkKit
import Derived.WalkSpells
import Derived.WalkLawsBesides
import Derived.Deep.LoopGhost
import Derived.Lib.Hide
import Derived.Maps.AppendAt
import Derived.Laws.BitsAllLaws
import Derived.Laws.BitsLemmas
namespace Go.Proofs.YtikjpniobihanaaDoor
set_option linter.unusedVariables false
set_option linter.unusedSimpArgs false
open Go.RowKit

/-- A byte as a value. -/
def bv (b : UInt8) : Value := .int .u8 (b.toNat : Int)
/-- A list of bytes as a string's value. -/
def str (l : List UInt8) : Value := .string ⟨l.toArray⟩

theorem str_toList (l : List UInt8) : (⟨l.toArray⟩ : ByteArray).data.toList = l := by simp
theorem str_size (l : List UInt8) : (⟨l.toArray⟩ : ByteArray).size = l.length := rfl
theorem bv_one (l : List UInt8) : ∀ u ∈ l.map bv, u.oneCell' = true := by
  intro u hu
  obtain ⟨b, _, rfl⟩ := List.mem_map.1 hu
  rfl

/-! ### strings, as the walk meets them -/
theorem str_mk (l : List UInt8) : Value.string ⟨l.toArray⟩ = str l := rfl
@[go_sem] theorem binOp_str_eql (t : TypeId) (a b : List UInt8) : binOp .eql t (str a) (str b) = pure (.bool (a == b)) := by
  simp only [str, binOp_string_eql]; simp [ByteArray.toList_eq]
@[go_sem] theorem binOp_str_neq (t : TypeId) (a b : List UInt8) : binOp .neq t (str a) (str b) = pure (.bool !(a == b)) := by
  simp only [str, binOp_string_neq]; simp [ByteArray.toList_eq]
@[go_sem] theorem binOp_str_lss (t : TypeId) (a b : List UInt8) : binOp .lss t (str a) (str b) = pure (.bool (Op.bytesLess a b)) := by
  simp only [str, binOp_string_lss]; simp [ByteArray.toList_eq]
@[go_sem] theorem binOp_str_geq (t : TypeId) (a b : List UInt8) : binOp .geq t (str a) (str b) = pure (.bool !(Op.bytesLess a b)) := by
  simp only [str, binOp_string_geq]; simp [ByteArray.toList_eq]
@[go_sem] theorem eqGuard_str (o : BinOp) (t : TypeId) (x y : Operand) (a b : List UInt8) : eqGuard o t x y (str a) (str b) = pure () := by
  cases o <;> rfl
@[go_sem] theorem run_len_str {P : Program} (w : World) (t ty : TypeId) (s : List UInt8) (h : P.underlying t = some .string) :
    (Builtin.len_ #[t] ty #[str s]).run P w = .ok (goInt s.length) w := run_len_string w t ty _ h
theorem run_str_add {P : Program} (w : World) (t : TypeId) (a b : List UInt8) (h : a.length + b.length ≤ 1048576) : (binOp .add t (str a) (str b)).run P w = .ok (str (a ++ b)) w := by
  simp only [str, binOp_string_add]
  rw [run_string_add_lists w a b (by omega) (by omega)]
theorem run_index_str {P : Program} (w : World) (t : TypeId) (s : List UInt8) (k : IntKind) (i : Nat) (h : P.underlying t = some .string) (hi : i < s.length) :
    (Instr.index t (str s) (.int k (i : Int))).run P w = .ok (.int .u8 (s[i].toNat : Int)) w := by
  unfold str
  rw [run_index_string w t _ k _ h, dif_pos ⟨by omega, by show (i : Int) < (s.length : Int); omega⟩]
  rfl
@[go_sem] theorem run_store_str (P : Program) (w : World) (a : Addr) (m : Mode) (l : List UInt8) : (store a (str l) m).run P w = stored P w a (str l) m := run_store P w a _ m rfl
theorem str_open (l : List UInt8) : ∃ b : ByteArray, str l = .string b := ⟨_, rfl⟩
/-- The string that is an argument, as a list of its bytes. -/
theorem str_of (s : ByteArray) : ∃ l : List UInt8, Value.string s = str l ∧ s.size = l.length := ⟨s.data.toList, by unfold str; rw [Array.toArray_toList], by rw [Array.length_toList]; rfl⟩

/-- The slice (A, n) holds the cells xs ('size' a place), and lies below block B. -/
def Holds (w : World) (B size : Nat) (A : Option Addr) (n : Nat) (xs : List Value) : Prop :=
  xs.length = n * size ∧ (0 < n → ∃ b off, A = some ⟨b, off, none⟩ ∧ b < B ∧ ∀ j u, xs[j]? = some u → w.cell? ⟨b, off + j, none⟩ = some u)

theorem plus_addr (b off j : Nat) : (⟨b, off, none⟩ : Addr).add j = ⟨b, off + j, none⟩ := by
  unfold Addr.add; split <;> simp_all

section
variable {w w' : World} {B B' size n : Nat} {A : Option Addr} {xs : List Value}
theorem Holds.empty : Holds w B size A 0 [] := ⟨by simp, fun h => absurd h (by omega)⟩
theorem Holds.kept (h : Holds w B size A n xs) (hk : ∀ p : Addr, p.block < B → w'.cell? p = w.cell? p) : Holds w' B size A n xs := by
  refine ⟨h.1, fun hn => ?_⟩
  obtain ⟨b, off, e, hb, hc⟩ := h.2 hn
  exact ⟨b, off, e, hb, fun j u hu => (hk _ hb).trans (hc j u hu)⟩
theorem Holds.wider (h : Holds w B size A n xs) (hB : B ≤ B') : Holds w B' size A n xs := by
  refine ⟨h.1, fun hn => ?_⟩
  obtain ⟨b, off, e, hb, hc⟩ := h.2 hn
  exact ⟨b, off, e, Nat.lt_of_lt_of_le hb hB, hc⟩
theorem Holds.below (h : Holds w B size A n xs) (hb : Below B w w') : Holds w' B size A n xs := h.kept fun _ hp => hb.cell hp
theorem Holds.alloc (h : Holds w B size A n xs) (hB : B ≤ w.heap.size) (o : Obj) : Holds (w.alloc o) B size A n xs :=
  h.kept fun p hp => World.cell?_alloc_lt w o p (Nat.lt_of_lt_of_le hp hB)
theorem Holds.own {base e c : Nat} (h : w.ownsRow base e size (.slice A n c) n xs) : Holds w w.heap.size size A n xs := by
  refine ⟨h.1, fun hn => ?_⟩
  rcases h.2 with ⟨e1, e2⟩ | ⟨g, cap, cur, hv, hg, hh, hnc, _⟩
  · omega
  · injection hv with hA _ _
    subst hA
    refine ⟨g, 0, rfl, ?_, fun j u hu => ?_⟩
    · rcases Nat.lt_or_ge g w.heap.size with hlt | hge
      · exact hlt
      · rw [Array.getElem?_eq_none hge] at hh; cases hh
    · have := h.cells (g := g) rfl j u hu
      rwa [plus_addr] at this
end

/-- At place k of a slice of one-cell elements. -/
theorem Holds.at1 {w : World} {B n k : Nat} {A : Option Addr} {xs : List Value} (h : Holds w B 1 A n xs) (hk : k < n) :
    ∃ b off u, A = some ⟨b, off, none⟩ ∧ b < B ∧ xs[k]? = some u ∧ w.cell? ⟨b, off + k, none⟩ = some u := by
  obtain ⟨b, off, e, hb, hc⟩ := h.2 (by omega)
  have hl : k < xs.length := by have := h.1; omega
  exact ⟨b, off, xs[k], e, hb, List.getElem?_eq_getElem hl, hc k _ (List.getElem?_eq_getElem hl)⟩

/-- At place k of a slice of bytes. -/
theorem Holds.byte {w : World} {B n k : Nat} {A : Option Addr} {l : List UInt8} (h : Holds w B 1 A n (l.map bv)) (hk : k < n) :
    ∃ b off, ∃ hl : k < l.length, A = some ⟨b, off, none⟩ ∧ b < B ∧ w.cell? ⟨b, off + k, none⟩ = some (.int .u8 (l[k].toNat : Int)) := by
  obtain ⟨b, off, u, e, hb, hu, hc⟩ := h.at1 hk
  have hl : k < l.length := by have := h.1; simp at this; omega
  refine ⟨b, off, hl, e, hb, ?_⟩
  rw [hc]
  simp [List.getElem?_eq_getElem hl] at hu
  rw [← hu]; rfl

theorem Holds.len {w : World} {B n : Nat} {A : Option Addr} {l : List UInt8} (h : Holds w B 1 A n (l.map bv)) : l.length = n := by
  have := h.1; simpa using this

/-! ### parts of a slice -/
/-- Where the part from 'lo' on begins. -/
def cutAt (A : Option Addr) (c lo size : Nat) : Option Addr := if c = lo then A else A.map (·.add (lo * size))
theorem cutAt_none {A : Option Addr} {c lo size : Nat} (h : cutAt A c lo size = none) : A = none := by
  unfold cutAt at h; split at h
  · exact h
  · simpa using h
section
variable {P : Program} (w : World) (t e : TypeId) (i : TypeInfo) (ht : P.underlying t = some (.slice e)) (hi : P.info? e = some i) (A : Option Addr) (n c : Nat)
include ht hi
theorem run_cut_lh (kl kh : IntKind) (L H : Int) (lo hg : Nat) (hL : L = lo) (hH : H = hg) (h1 : lo ≤ hg) (h2 : hg ≤ c) :
    (Instr.slice t (.slice A n c) (some (.int kl L)) (some (.int kh H)) none).run P w = .ok (.slice (cutAt A c lo i.size) (hg - lo) (c - lo)) w := by
  subst hL hH
  simp [Instr.slice, run_underlying ht, Instr.sliceBounds, run_sliceBound, sizeOf, typeInfo, hi, cutAt, h1, h2]
theorem run_cut_h (kh : IntKind) (H : Int) (hg : Nat) (hH : H = hg) (h2 : hg ≤ c) :
    (Instr.slice t (.slice A n c) none (some (.int kh H)) none).run P w = .ok (.slice A hg c) w := by
  subst hH
  simp [Instr.slice, run_underlying ht, Instr.sliceBounds, run_sliceBound, sizeOf, typeInfo, hi, h2, Addr.add]
theorem run_cut_l (kl : IntKind) (L : Int) (lo : Nat) (hL : L = lo) (h1 : lo ≤ n) :
    (Instr.slice t (.slice A n c) (some (.int kl L)) none none).run P w = .ok (.slice (cutAt A c lo i.size) (n - lo) (c - lo)) w := by
  subst hL
  simp [Instr.slice, run_underlying ht, Instr.sliceBounds, run_sliceBound, sizeOf, typeInfo, hi, cutAt, h1]
end
theorem Holds.cut {w : World} {B size n : Nat} {A : Option Addr} {xs : List Value} (h : Holds w B size A n xs) {c lo hg : Nat} (h1 : lo ≤ hg) (h2 : hg ≤ n) (hc : n ≤ c) :
    Holds w B size (cutAt A c lo size) (hg - lo) ((xs.drop (lo * size)).take ((hg - lo) * size)) := by
  have hl : hg * size ≤ n * size := Nat.mul_le_mul_right _ h2
  refine ⟨?_, fun hn => ?_⟩
  · rw [List.length_take, List.length_drop, h.1, Nat.sub_mul]
    exact Nat.min_eq_left (by omega)
  · obtain ⟨b, off, rfl, hb, hcell⟩ := h.2 (by omega)
    unfold cutAt
    rw [if_neg (by omega)]
    refine ⟨b, off + lo * size, by simp [plus_addr], hb, fun j u hu => ?_⟩
    have hj : xs[lo * size + j]? = some u := by
      rw [List.getElem?_take] at hu
      split at hu
      · rwa [List.getElem?_drop] at hu
      · cases hu
    rw [Nat.add_assoc]
    exact hcell _ u hj
theorem Holds.cutBytes {w : World} {B n : Nat} {A : Option Addr} {l : List UInt8} (h : Holds w B 1 A n (l.map bv)) {c lo hg : Nat} (h1 : lo ≤ hg) (h2 : hg ≤ n) (hc : n ≤ c) :
    Holds w B 1 (cutAt A c lo 1) (hg - lo) (((l.drop lo).take (hg - lo)).map bv) := by
  have := h.cut h1 h2 hc
  simpa [List.map_take, List.map_drop] using this
theorem Holds.first {w : World} {B n : Nat} {A : Option Addr} {l : List UInt8} (h : Holds w B 1 A n (l.map bv)) {k : Nat} (h2 : k ≤ n) : Holds w B 1 A k ((l.take k).map bv) := by
  refine ⟨by have := h.len; simp; omega, fun hn => ?_⟩
  obtain ⟨b, off, rfl, hb, hcell⟩ := h.2 (by omega)
  refine ⟨b, off, rfl, hb, fun j u hu => hcell j u ?_⟩
  rw [List.map_take, List.getElem?_take] at hu
  split at hu
  · exact hu
  · cases hu
/-! ### parts of a string -/
theorem extract_list (s : List UInt8) (lo hg : Nat) : (⟨s.toArray⟩ : ByteArray).extract lo hg = ⟨((s.drop lo).take (hg - lo)).toArray⟩ := by
  apply ByteArray.ext
  simp [ByteArray.data_extract, List.extract_toArray, List.extract_eq_take_drop]
section
variable {P : Program} (w : World) (t : TypeId) (ht : P.underlying t = some .string) (s : List UInt8)
include ht
theorem run_str_lh (kl kh : IntKind) (L H : Int) (lo hg : Nat) (hL : L = lo) (hH : H = hg) (h1 : lo ≤ hg) (h2 : hg ≤ s.length) :
    (Instr.slice t (str s) (some (.int kl L)) (some (.int kh H)) none).run P w = .ok (str ((s.drop lo).take (hg - lo))) w := by
  subst hL hH
  unfold str
  rw [run_slice_string_if w t _ kl kh _ _ ht, if_pos ⟨by omega, by show (hg : Int) ≤ (s.length : Int); omega⟩, if_pos ⟨by omega, by omega⟩, Int.toNat_natCast, Int.toNat_natCast, extract_list]
theorem run_str_h (kh : IntKind) (H : Int) (hg : Nat) (hH : H = hg) (h2 : hg ≤ s.length) :
    (Instr.slice t (str s) none (some (.int kh H)) none).run P w = .ok (str (s.take hg)) w := by
  subst hH
  unfold str
  rw [run_slice_string_h w t _ ht kh _ (by omega) (by show (hg : Int) ≤ (s.length : Int); omega), Int.toNat_natCast, extract_list]
  simp
theorem run_str_l (kl : IntKind) (L : Int) (lo : Nat) (hL : L = lo) (h2 : lo ≤ s.length) :
    (Instr.slice t (str s) (some (.int kl L)) none none).run P w = .ok (str (s.drop lo)) w := by
  subst hL
  unfold str
  rw [run_slice_string_l w t _ ht kl _ (by omega) (by show (lo : Int) ≤ (s.length : Int); omega), Int.toNat_natCast, extract_list]
  rw [show (s.drop lo).take ((⟨s.toArray⟩ : ByteArray).size - lo) = s.drop lo from List.take_of_length_le (by rw [List.length_drop]; exact Nat.le_refl _)]
end

/-- What a value that owns a row looks like. -/
theorem own_form {w : World} {base e size n : Nat} {v : Value} {xs : List Value} (h : w.ownsRow base e size v n xs) : ∃ A c, v = .slice A n c ∧ (A = none → n = 0 ∧ c = 0) := by
  rcases h.2 with ⟨rfl, rfl⟩ | ⟨g, cap, cur, rfl, _⟩
  · exact ⟨none, 0, rfl, fun _ => ⟨rfl, rfl⟩⟩
  · exact ⟨_, cap, rfl, fun h => by cases h⟩

/-- An append of one cell that has just been laid in a block of its own, onto a row of the call's own. -/
theorem wpList_append1 {P : Program} (w : World) {ops : Array Oper} {rest : List Oper} {o : Oper} {a : Act} {Q : Exit → Act → World → Prop} (hgd : o.guard = none) (s x : Operand) (t : TypeId)
    (ho : o.op = .call { callee := .builtin .append, args := #[s, x], argTypes := #[t, t] })
    (base : Nat) (e : TypeId) (i : TypeInfo) (z : Value) (bytes : Nat) (ht : P.underlying t = some (.slice e)) (hi : P.info? e = some i) (hz : i.zero = some z)
    (hsize : i.size = 1) (hby : i.bytes = bytes) (hzs : z.cells.size = 1)
    (v : Value) (n : Nat) (xs : List Value) (hs : a.eval s = v) (hown : w.ownsRow base e 1 v n xs) (u : Value)
    (hx : a.eval x = .slice (some ⟨w.heap.size, 0, none⟩) 1 1) (hu : u.oneCell' = true)
    (hn : n + 1 ≤ 1048576) (hb : bytes ≤ 65536) (hbase : base ≤ w.heap.size)
    (h : ∀ v' w', w'.ownsRow base e 1 v' (n + 1) (xs ++ [u]) → w.grownBy w' v.ownBlock → (v'.ownBlock = v.ownBlock ∨ v'.ownBlock = some (w.heap.size + 1)) → wpList P ops Q rest (a.put o.dst v') w') :
    wpList P ops Q (o :: rest) a (w.alloc (.cells #[u] e)) := by
  refine wpList_append_own_at (w.alloc (.cells #[u] e)) hgd s x t ho base e i z 1 bytes ht hi hz hsize hby hzs (by decide) v n xs hs (hown.alloc _) ⟨w.heap.size, 0, none⟩ 1 1 [u] hx rfl (cell_one_new _ _ _) ?_ ?_ ?_ ?_ ?_
  · intro y hy; simp at hy; subst hy; exact hu
  · unfold maxLen; omega
  · have h1 : (n + 1) * bytes ≤ 1048576 * 65536 := Nat.mul_le_mul hn hb
    omega
  · have := hbase; simp; omega
  · intro v' w' h1 h2 _ h4
    refine h v' w' h1 ⟨h2.os, h2.tape, h2.output, Nat.le_trans (by simp) h2.size, fun k hk hne => ?_⟩ (by simpa using h4)
    rw [h2.block k (by simp; omega) hne, Below.heap_alloc _ _ _ hk]

/-- An append of all that a slice holds (nil, empty or not) onto a row of the call's own. -/
theorem wpList_append_all {P : Program} (w : World) {ops : Array Oper} {rest : List Oper} {o : Oper} {a : Act} {Q : Exit → Act → World → Prop} (hgd : o.guard = none) (s x : Operand) (t : TypeId)
    (ho : o.op = .call { callee := .builtin .append, args := #[s, x], argTypes := #[t, t] })
    (base : Nat) (e : TypeId) (i : TypeInfo) (z : Value) (size bytes : Nat) (ht : P.underlying t = some (.slice e)) (hi : P.info? e = some i) (hz : i.zero = some z)
    (hsize : i.size = size) (hby : i.bytes = bytes) (hzs : z.cells.size = size) (hsz : 0 < size)
    (v : Value) (n : Nat) (xs : List Value) (hs : a.eval s = v) (hown : w.ownsRow base e size v n xs)
    (B : Nat) (A : Option Addr) (m c : Nat) (news : List Value) (hx : a.eval x = .slice A m c) (hA : A = none → c = 0) (hr : Holds w B size A m news) (h1 : ∀ u ∈ news, u.oneCell' = true)
    (hn : n + m ≤ 1048576) (hb : bytes ≤ 65536) (hbase : base ≤ w.heap.size)
    (h : ∀ v' w', w'.ownsRow base e size v' (n + m) (xs ++ news) → w.grownBy w' v.ownBlock → (v'.ownBlock = v.ownBlock ∨ v'.ownBlock = some w.heap.size) → wpList P ops Q rest (a.put o.dst v') w') :
    wpList P ops Q (o :: rest) a w := by
  have hbytes : (n + m) * bytes ≤ 140737488355328 := by
    have h1 : (n + m) * bytes ≤ 1048576 * 65536 := Nat.mul_le_mul hn hb
    omega
  cases A with
  | none =>
    have hm : m = 0 := by
      rcases Nat.eq_zero_or_pos m with h0 | h0
      · exact h0
      · obtain ⟨b, off, he, _⟩ := hr.2 h0; cases he
    subst hm
    have hnil : news = [] := List.eq_nil_of_length_eq_zero (by simpa using hr.1)
    subst hnil
    obtain rfl := hA rfl
    refine wpList_plain hgd fun K hK => ?_
    have hrun := run_append_owned_none (P := P) (w := w) base t o.type e i size ht hi v n xs hown
    unfold Oper.wp
    simp [execOp, ho, resolve, invoke, builtin, hs, hx, hrun, Result.andThen]
    exact hK _ _ (h v w (by simpa using hown) (World.grownBy.refl w _) (.inl rfl))
  | some ad =>
    have hcells : ∀ j u, news[j]? = some u → w.cell? (ad.add j) = some u := by
      intro j u hu
      rcases Nat.eq_zero_or_pos m with h0 | h0
      · subst h0
        have hnil : news = [] := List.eq_nil_of_length_eq_zero (by simpa using hr.1)
        subst hnil; simp at hu
      · obtain ⟨b, off, he, _, hc⟩ := hr.2 h0
        injection he with he
        subst he
        rw [plus_addr]; exact hc j u hu
    exact wpList_append_own_at w hgd s x t ho base e i z size bytes ht hi hz hsize hby hzs hsz v n xs hs hown ad m c news hx hr.1 hcells h1 (by unfold maxLen; omega) hbytes hbase fun v' w' h1 h2 _ h4 => h v' w' h1 h2 h4

theorem below_own {B : Nat} {a w w' : World} {base e size n : Nat} {v : Value} {xs : List Value} (h : Below B a w) (hg : w.grownBy w' v.ownBlock) (hown : w.ownsRow base e size v n xs) (hB : B ≤ base) (hw : B ≤ w.heap.size) : Below B a w' :=
  h.grown hg hw fun k hk => Nat.le_trans hB (hown.lt k hk).1

/-- 'append([]T(nil), x...)': a slice of the call's own that holds what x holds. -/
theorem wpList_append_nil {P : Program} (w : World) {ops : Array Oper} {rest : List Oper} {o : Oper} {a : Act} {Q : Exit → Act → World → Prop} (hgd : o.guard = none) (x : Operand) (t : TypeId)
    (ho : o.op = .call { callee := .builtin .append, args := #[.const (.slice none 0 0), x], argTypes := #[t, t] })
    (e : TypeId) (i : TypeInfo) (z : Value) (size bytes : Nat) (ht : P.underlying t = some (.slice e)) (hi : P.info? e = some i) (hz : i.zero = some z)
    (hsize : i.size = size) (hby : i.bytes = bytes) (hzs : z.cells.size = size) (hsz : 0 < size)
    (B : Nat) (A : Option Addr) (m c : Nat) (news : List Value) (hr : Holds w B size A m news) (hx : a.eval x = .slice A m c) (hA : A = none → c = 0) (h1 : ∀ u ∈ news, u.oneCell' = true)
    (hn : m ≤ 1048576) (hb : bytes ≤ 65536)
    (h : ∀ A' c' w', w'.ownsRow w.heap.size e size (.slice A' m c') m news → Holds w' w'.heap.size size A' m news → (A' = none → c' = 0) → Below w.heap.size w w' → wpList P ops Q rest (a.put o.dst (.slice A' m c')) w') :
    wpList P ops Q (o :: rest) a w := by
  refine wpList_append_all w hgd _ x t ho w.heap.size e i z size bytes ht hi hz hsize hby hzs hsz (.slice none 0 0) 0 [] rfl (World.ownsRow_nil _ _ _ _) B A m c news hx hA hr h1 (by omega) hb (Nat.le_refl _) ?_
  intro v' w' hown hg _
  have hown' : w'.ownsRow w.heap.size e size v' m news := by simpa using hown
  obtain ⟨A', c', rfl, hA'⟩ := own_form hown'
  exact h A' c' w' hown' (Holds.own hown') (fun h => (hA' h).2) ((Below.refl _ _).grown hg (Nat.le_refl _) (by simp [Value.ownBlock]))

/-- The string of the bytes of a slice. -/
theorem run_convert_bytes {P : Program} {w : World} {B n : Nat} {A : Option Addr} {c : Nat} {l : List UInt8} (src dst e : TypeId) (hs : P.underlying src = some (.slice e)) (he : P.underlying e = some (.int .u8)) (hd : P.underlying dst = some .string)
    (h : Holds w B 1 A n (l.map bv)) (_hA : A = none → n = 0) : (convert src dst (.slice A n c)).run P w = .ok (str l) w := by
  have hl := h.len
  by_cases h0 : 0 < n
  · obtain ⟨b, off, rfl, _, hc⟩ := h.2 h0
    have := run_convert_bytes_arg (P := P) w src e hs he b off n c (l.map fun b => (b.toNat : Int)) (by simpa using hl) (fun i hi => by
      have hil : i < l.length := by omega
      rw [hc i (bv l[i]) (by simp [List.getElem?_eq_getElem hil])]
      simp [bv, List.getD, List.getElem?_eq_getElem hil]) dst hd
    rw [this]
    simp [strOfNums, str, Function.comp_def]
  · have hn : n = 0 := by omega
    subst hn
    have : l = [] := List.eq_nil_of_length_eq_zero hl
    subst this
    cases A with
    | none => exact run_convert_bytes_nil w src e hs he 0 c dst hd
    | some x =>
      rw [run_convert_bytes_string w src dst e _ 0 c hs he hd, run_bytesToString w x 0 c [] (run_loadCells_list (P := P) w x [] (by simp))]
      rfl
end Go.Proofs.YtikjpniobihanaaDoor
