/- Joined texts: Mem, Small, Jv, JMem, JMemS. -/
import Derived.WalkKit
import Derived.WalkSpells
import Derived.WalkLawsBesides
import Derived.Deep.LoopGhost
import Derived.Lib.Hide
import Derived.Maps.AppendAt
import Derived.Laws.BitsAllLaws
import Derived.Laws.BitsLemmas
import Derived.BigQuiet
import Derived.Lib.ItoaNum
import Derived.Lib.ItoaLen
/- Words for memory that the proofs of this project share: bytes as values, a slice that reads as a list of cells, an append of one cell onto a row of the call's own. Nothing of the program is named here. -/
namespace Go.Proofs.Ytmlgaedhfannmaa
set_option linter.unusedVariables false
set_option linter.unusedSimpArgs false
open Go.RowKit

/-- A byte as a value. -/
def bv (b : UInt8) : Value := .int .u8 (b.toNat : Int)
/-- A list of bytes as a string's value. -/
def str (l : List UInt8) : Value := .string ⟨l.toArray⟩

theorem str_toList (l : List UInt8) : (⟨l.toArray⟩ : ByteArray).data.toList = l := by simp
theorem str_size (l : List UInt8) : (⟨l.toArray⟩ : ByteArray).size = l.length := rfl
theorem bv_one (l : List UInt8) : ∀ u ∈ l.map bv, u.oneCell' = true := by
  intro u hu
  obtain ⟨b, _, rfl⟩ := List.mem_map.1 hu
  rfl

/-! ### strings, as the walk meets them -/
theorem str_mk (l : List UInt8) : Value.string ⟨l.toArray⟩ = str l := rfl
@[go_sem] theorem binOp_str_eql (t : TypeId) (a b : List UInt8) : binOp .eql t (str a) (str b) = pure (.bool (a == b)) := by
  simp only [str, binOp_string_eql]; simp [ByteArray.toList_eq]
@[go_sem] theorem binOp_str_neq (t : TypeId) (a b : List UInt8) : binOp .neq t (str a) (str b) = pure (.bool !(a == b)) := by
  simp only [str, binOp_string_neq]; simp [ByteArray.toList_eq]
@[go_sem] theorem binOp_str_lss (t : TypeId) (a b : List UInt8) : binOp .lss t (str a) (str b) = pure (.bool (Op.bytesLess a b)) := by
  simp only [str, binOp_string_lss]; simp [ByteArray.toList_eq]
@[go_sem] theorem binOp_str_geq (t : TypeId) (a b : List UInt8) : binOp .geq t (str a) (str b) = pure (.bool !(Op.bytesLess a b)) := by
  simp only [str, binOp_string_geq]; simp [ByteArray.toList_eq]
@[go_sem] theorem eqGuard_str (o : BinOp) (t : TypeId) (x y : Operand) (a b : List UInt8) : eqGuard o t x y (str a) (str b) = pure () := by
  cases o <;> rfl
@[go_sem] theorem run_len_str {P : Program} (w : World) (t ty : TypeId) (s : List UInt8) (h : P.underlying t = some .string) :
    (Builtin.len_ #[t] ty #[str s]).run P w = .ok (goInt s.length) w := run_len_string w t ty _ h
theorem run_str_add {P : Program} (w : World) (t : TypeId) (a b : List UInt8) (h : a.length + b.length ≤ 1048576) : (binOp .add t (str a) (str b)).run P w = .ok (str (a ++ b)) w := by
  simp only [str, binOp_string_add]
  rw [run_string_add_lists w a b (by omega) (by omega)]
theorem run_index_str {P : Program} (w : World) (t : TypeId) (s : List UInt8) (k : IntKind) (i : Nat) (h : P.underlying t = some .string) (hi : i < s.length) :
    (Instr.index t (str s) (.int k (i : Int))).run P w = .ok (.int .u8 (s[i].toNat : Int)) w := by
  unfold str
  rw [run_index_string w t _ k _ h, dif_pos ⟨by omega, by show (i : Int) < (s.length : Int); omega⟩]
  rfl
@[go_sem] theorem run_store_str (P : Program) (w : World) (a : Addr) (m : Mode) (l : List UInt8) : (store a (str l) m).run P w = stored P w a (str l) m := run_store P w a _ m rfl
theorem str_open (l : List UInt8) : ∃ b : ByteArray, str l = .string b := ⟨_, rfl⟩
/-- The string that is an argument, as a list of its bytes. -/
theorem str_of (s : ByteArray) : ∃ l : List UInt8, Value.string s = str l ∧ s.size = l.length := ⟨s.data.toList, by unfold str; rw [Array.toArray_toList], by rw [Array.length_toList]; rfl⟩

/-- The slice (A, n) holds the cells xs ('size' a place), and lies below block B. -/
def Holds (w : World) (B size : Nat) (A : Option Addr) (n : Nat) (xs : List Value) : Prop :=
  xs.length = n * size ∧ (0 < n → ∃ b off, A = some ⟨b, off, none⟩ ∧ b < B ∧ ∀ j u, xs[j]? = some u → w.cell? ⟨b, off + j, none⟩ = some u)

theorem plus_addr (b off j : Nat) : (⟨b, off, none⟩ : Addr).add j = ⟨b, off + j, none⟩ := by
  unfold Addr.add; split <;> simp_all

section
variable {w w' : World} {B B' size n : Nat} {A : Option Addr} {xs : List Value}
theorem Holds.empty : Holds w B size A 0 [] := ⟨by simp, fun h => absurd h (by omega)⟩
theorem Holds.kept (h : Holds w B size A n xs) (hk : ∀ p : Addr, p.block < B → w'.cell? p = w.cell? p) : Holds w' B size A n xs := by
  refine ⟨h.1, fun hn => ?_⟩
  obtain ⟨b, off, e, hb, hc⟩ := h.2 hn
  exact ⟨b, off, e, hb, fun j u hu => (hk _ hb).trans (hc j u hu)⟩
theorem Holds.wider (h : Holds w B size A n xs) (hB : B ≤ B') : Holds w B' size A n xs := by
  refine ⟨h.1, fun hn => ?_⟩
  obtain ⟨b, off, e, hb, hc⟩ := h.2 hn
  exact ⟨b, off, e, Nat.lt_of_lt_of_le hb hB, hc⟩
theorem Holds.below (h : Holds w B size A n xs) (hb : Below B w w') : Holds w' B size A n xs := h.kept fun _ hp => hb.cell hp
theorem Holds.alloc (h : Holds w B size A n xs) (hB : B ≤ w.heap.size) (o : Obj) : Holds (w.alloc o) B size A n xs :=
  h.kept fun p hp => World.cell?_alloc_lt w o p (Nat.lt_of_lt_of_le hp hB)
theorem Holds.own {base e c : Nat} (h : w.ownsRow base e size (.slice A n c) n xs) : Holds w w.heap.size size A n xs := by
  refine ⟨h.1, fun hn => ?_⟩
  rcases h.2 with ⟨e1, e2⟩ | ⟨g, cap, cur, hv, hg, hh, hnc, _⟩
  · omega
  · injection hv with hA _ _
    subst hA
    refine ⟨g, 0, rfl, ?_, fun j u hu => ?_⟩
    · rcases Nat.lt_or_ge g w.heap.size with hlt | hge
      · exact hlt
      · rw [Array.getElem?_eq_none hge] at hh; cases hh
    · have := h.cells (g := g) rfl j u hu
      rwa [plus_addr] at this
end

/-- At place k of a slice of one-cell elements. -/
theorem Holds.at1 {w : World} {B n k : Nat} {A : Option Addr} {xs : List Value} (h : Holds w B 1 A n xs) (hk : k < n) :
    ∃ b off u, A = some ⟨b, off, none⟩ ∧ b < B ∧ xs[k]? = some u ∧ w.cell? ⟨b, off + k, none⟩ = some u := by
  obtain ⟨b, off, e, hb, hc⟩ := h.2 (by omega)
  have hl : k < xs.length := by have := h.1; omega
  exact ⟨b, off, xs[k], e, hb, List.getElem?_eq_getElem hl, hc k _ (List.getElem?_eq_getElem hl)⟩

/-- At place k of a slice of bytes. -/
theorem Holds.byte {w : World} {B n k : Nat} {A : Option Addr} {l : List UInt8} (h : Holds w B 1 A n (l.map bv)) (hk : k < n) :
    ∃ b off, ∃ hl : k < l.length, A = some ⟨b, off, none⟩ ∧ b < B ∧ w.cell? ⟨b, off + k, none⟩ = some (.int .u8 (l[k].toNat : Int)) := by
  obtain ⟨b, off, u, e, hb, hu, hc⟩ := h.at1 hk
  have hl : k < l.length := by have := h.1; simp at this; omega
  refine ⟨b, off, hl, e, hb, ?_⟩
  rw [hc]
  simp [List.getElem?_eq_getElem hl] at hu
  rw [← hu]; rfl

theorem Holds.len {w : World} {B n : Nat} {A : Option Addr} {l : List UInt8} (h : Holds w B 1 A n (l.map bv)) : l.length = n := by
  have := h.1; simpa using this

/-! ### parts of a slice -/
/-- Where the part from 'lo' on begins. -/
def cutAt (A : Option Addr) (c lo size : Nat) : Option Addr := if c = lo then A else A.map (·.add (lo * size))
theorem cutAt_none {A : Option Addr} {c lo size : Nat} (h : cutAt A c lo size = none) : A = none := by
  unfold cutAt at h; split at h
  · exact h
  · simpa using h
section
variable {P : Program} (w : World) (t e : TypeId) (i : TypeInfo) (ht : P.underlying t = some (.slice e)) (hi : P.info? e = some i) (A : Option Addr) (n c : Nat)
include ht hi
theorem run_cut_lh (kl kh : IntKind) (L H : Int) (lo hg : Nat) (hL : L = lo) (hH : H = hg) (h1 : lo ≤ hg) (h2 : hg ≤ c) :
    (Instr.slice t (.slice A n c) (some (.int kl L)) (some (.int kh H)) none).run P w = .ok (.slice (cutAt A c lo i.size) (hg - lo) (c - lo)) w := by
  subst hL hH
  simp [Instr.slice, run_underlying ht, Instr.sliceBounds, run_sliceBound, sizeOf, typeInfo, hi, cutAt, h1, h2]
theorem run_cut_h (kh : IntKind) (H : Int) (hg : Nat) (hH : H = hg) (h2 : hg ≤ c) :
    (Instr.slice t (.slice A n c) none (some (.int kh H)) none).run P w = .ok (.slice A hg c) w := by
  subst hH
  simp [Instr.slice, run_underlying ht, Instr.sliceBounds, run_sliceBound, sizeOf, typeInfo, hi, h2, Addr.add]
theorem run_cut_l (kl : IntKind) (L : Int) (lo : Nat) (hL : L = lo) (h1 : lo ≤ n) :
    (Instr.slice t (.slice A n c) (some (.int kl L)) none none).run P w = .ok (.slice (cutAt A c lo i.size) (n - lo) (c - lo)) w := by
  subst hL
  simp [Instr.slice, run_underlying ht, Instr.sliceBounds, run_sliceBound, sizeOf, typeInfo, hi, cutAt, h1]
end
theorem Holds.cut {w : World} {B size n : Nat} {A : Option Addr} {xs : List Value} (h : Holds w B size A n xs) {c lo hg : Nat} (h1 : lo ≤ hg) (h2 : hg ≤ n) (hc : n ≤ c) :
    Holds w B size (cutAt A c lo size) (hg - lo) ((xs.drop (lo * size)).take ((hg - lo) * size)) := by
  have hl : hg * size ≤ n * size := Nat.mul_le_mul_right _ h2
  refine ⟨?_, fun hn => ?_⟩
  · rw [List.length_take, List.length_drop, h.1, Nat.sub_mul]
    exact Nat.min_eq_left (by omega)
  · obtain ⟨b, off, rfl, hb, hcell⟩ := h.2 (by omega)
    unfold cutAt
    rw [if_neg (by omega)]
    refine ⟨b, off + lo * size, by simp [plus_addr], hb, fun j u hu => ?_⟩
    have hj : xs[lo * size + j]? = some u := by
      rw [List.getElem?_take] at hu
      split at hu
      · rwa [List.getElem?_drop] at hu
      · cases hu
    rw [Nat.add_assoc]
    exact hcell _ u hj
theorem Holds.cutBytes {w : World} {B n : Nat} {A : Option Addr} {l : List UInt8} (h : Holds w B 1 A n (l.map bv)) {c lo hg : Nat} (h1 : lo ≤ hg) (h2 : hg ≤ n) (hc : n ≤ c) :
    Holds w B 1 (cutAt A c lo 1) (hg - lo) (((l.drop lo).take (hg - lo)).map bv) := by
  have := h.cut h1 h2 hc
  simpa [List.map_take, List.map_drop] using this
theorem Holds.first {w : World} {B n : Nat} {A : Option Addr} {l : List UInt8} (h : Holds w B 1 A n (l.map bv)) {k : Nat} (h2 : k ≤ n) : Holds w B 1 A k ((l.take k).map bv) := by
  refine ⟨by have := h.len; simp; omega, fun hn => ?_⟩
  obtain ⟨b, off, rfl, hb, hcell⟩ := h.2 (by omega)
  refine ⟨b, off, rfl, hb, fun j u hu => hcell j u ?_⟩
  rw [List.map_take, List.getElem?_take] at hu
  split at hu
  · exact hu
  · cases hu
/-! ### parts of a string -/
theorem extract_list (s : List UInt8) (lo hg : Nat) : (⟨s.toArray⟩ : ByteArray).extract lo hg = ⟨((s.drop lo).take (hg - lo)).toArray⟩ := by
  apply ByteArray.ext
  simp [ByteArray.data_extract, List.extract_toArray, List.extract_eq_take_drop]
section
variable {P : Program} (w : World) (t : TypeId) (ht : P.underlying t = some .string) (s : List UInt8)
include ht
theorem run_str_lh (kl kh : IntKind) (L H : Int) (lo hg : Nat) (hL : L = lo) (hH : H = hg) (h1 : lo ≤ hg) (h2 : hg ≤ s.length) :
    (Instr.slice t (str s) (some (.int kl L)) (some (.int kh H)) none).run P w = .ok (str ((s.drop lo).take (hg - lo))) w := by
  subst hL hH
  unfold str
  rw [run_slice_string_if w t _ kl kh _ _ ht, if_pos ⟨by omega, by show (hg : Int) ≤ (s.length : Int); omega⟩, if_pos ⟨by omega, by omega⟩, Int.toNat_natCast, Int.toNat_natCast, extract_list]
theorem run_str_h (kh : IntKind) (H : Int) (hg : Nat) (hH : H = hg) (h2 : hg ≤ s.length) :
    (Instr.slice t (str s) none (some (.int kh H)) none).run P w = .ok (str (s.take hg)) w := by
  subst hH
  unfold str
  rw [run_slice_string_h w t _ ht kh _ (by omega) (by show (hg : Int) ≤ (s.length : Int); omega), Int.toNat_natCast, extract_list]
  simp
theorem run_str_l (kl : IntKind) (L : Int) (lo : Nat) (hL : L = lo) (h2 : lo ≤ s.length) :
    (Instr.slice t (str s) (some (.int kl L)) none none).run P w = .ok (str (s.drop lo)) w := by
  subst hL
  unfold str
  rw [run_slice_string_l w t _ ht kl _ (by omega) (by show (lo : Int) ≤ (s.length : Int); omega), Int.toNat_natCast, extract_list]
  rw [show (s.drop lo).take ((⟨s.toArray⟩ : ByteArray).size - lo) = s.drop lo from List.take_of_length_le (by rw [List.length_drop]; exact Nat.le_refl _)]
end

/-- What a value that owns a row looks like. -/
theorem own_form {w : World} {base e size n : Nat} {v : Value} {xs : List Value} (h : w.ownsRow base e size v n xs) : ∃ A c, v = .slice A n c ∧ (A = none → n = 0 ∧ c = 0) := by
  rcases h.2 with ⟨rfl, rfl⟩ | ⟨g, cap, cur, rfl, _⟩
  · exact ⟨none, 0, rfl, fun _ => ⟨rfl, rfl⟩⟩
  · exact ⟨_, cap, rfl, fun h => by cases h⟩

/-- An append of one cell that has just been laid in a block of its own, onto a row of the call's own. -/
theorem wpList_append1 {P : Program} (w : World) {ops : Array Oper} {rest : List Oper} {o : Oper} {a : Act} {Q : Exit → Act → World → Prop} (hgd : o.guard = none) (s x : Operand) (t : TypeId)
    (ho : o.op = .call { callee := .builtin .append, args := #[s, x], argTypes := #[t, t] })
    (base : Nat) (e : TypeId) (i : TypeInfo) (z : Value) (bytes : Nat) (ht : P.underlying t = some (.slice e)) (hi : P.info? e = some i) (hz : i.zero = some z)
    (hsize : i.size = 1) (hby : i.bytes = bytes) (hzs : z.cells.size = 1)
    (v : Value) (n : Nat) (xs : List Value) (hs : a.eval s = v) (hown : w.ownsRow base e 1 v n xs) (u : Value)
    (hx : a.eval x = .slice (some ⟨w.heap.size, 0, none⟩) 1 1) (hu : u.oneCell' = true)
    (hn : n + 1 ≤ 1048576) (hb : bytes ≤ 65536) (hbase : base ≤ w.heap.size)
    (h : ∀ v' w', w'.ownsRow base e 1 v' (n + 1) (xs ++ [u]) → w.grownBy w' v.ownBlock → (v'.ownBlock = v.ownBlock ∨ v'.ownBlock = some (w.heap.size + 1)) → wpList P ops Q rest (a.put o.dst v') w') :
    wpList P ops Q (o :: rest) a (w.alloc (.cells #[u] e)) := by
  refine wpList_append_own_at (w.alloc (.cells #[u] e)) hgd s x t ho base e i z 1 bytes ht hi hz hsize hby hzs (by decide) v n xs hs (hown.alloc _) ⟨w.heap.size, 0, none⟩ 1 1 [u] hx rfl (cell_one_new _ _ _) ?_ ?_ ?_ ?_ ?_
  · intro y hy; simp at hy; subst hy; exact hu
  · unfold maxLen; omega
  · have h1 : (n + 1) * bytes ≤ 1048576 * 65536 := Nat.mul_le_mul hn hb
    omega
  · have := hbase; simp; omega
  · intro v' w' h1 h2 _ h4
    refine h v' w' h1 ⟨h2.os, h2.tape, h2.output, Nat.le_trans (by simp) h2.size, fun k hk hne => ?_⟩ (by simpa using h4)
    rw [h2.block k (by simp; omega) hne, Below.heap_alloc _ _ _ hk]

/-- An append of all that a slice holds (nil, empty or not) onto a row of the call's own. -/
theorem wpList_append_all {P : Program} (w : World) {ops : Array Oper} {rest : List Oper} {o : Oper} {a : Act} {Q : Exit → Act → World → Prop} (hgd : o.guard = none) (s x : Operand) (t : TypeId)
    (ho : o.op = .call { callee := .builtin .append, args := #[s, x], argTypes := #[t, t] })
    (base : Nat) (e : TypeId) (i : TypeInfo) (z : Value) (size bytes : Nat) (ht : P.underlying t = some (.slice e)) (hi : P.info? e = some i) (hz : i.zero = some z)
    (hsize : i.size = size) (hby : i.bytes = bytes) (hzs : z.cells.size = size) (hsz : 0 < size)
    (v : Value) (n : Nat) (xs : List Value) (hs : a.eval s = v) (hown : w.ownsRow base e size v n xs)
    (B : Nat) (A : Option Addr) (m c : Nat) (news : List Value) (hx : a.eval x = .slice A m c) (hA : A = none → c = 0) (hr : Holds w B size A m news) (h1 : ∀ u ∈ news, u.oneCell' = true)
    (hn : n + m ≤ 1048576) (hb : bytes ≤ 65536) (hbase : base ≤ w.heap.size)
    (h : ∀ v' w', w'.ownsRow base e size v' (n + m) (xs ++ news) → w.grownBy w' v.ownBlock → (v'.ownBlock = v.ownBlock ∨ v'.ownBlock = some w.heap.size) → wpList P ops Q rest (a.put o.dst v') w') :
    wpList P ops Q (o :: rest) a w := by
  have hbytes : (n + m) * bytes ≤ 140737488355328 := by
    have h1 : (n + m) * bytes ≤ 1048576 * 65536 := Nat.mul_le_mul hn hb
    omega
  cases A with
  | none =>
    have hm : m = 0 := by
      rcases Nat.eq_zero_or_pos m with h0 | h0
      · exact h0
      · obtain ⟨b, off, he, _⟩ := hr.2 h0; cases he
    subst hm
    have hnil : news = [] := List.eq_nil_of_length_eq_zero (by simpa using hr.1)
    subst hnil
    obtain rfl := hA rfl
    refine wpList_plain hgd fun K hK => ?_
    have hrun := run_append_owned_none (P := P) (w := w) base t o.type e i size ht hi v n xs hown
    unfold Oper.wp
    simp [execOp, ho, resolve, invoke, builtin, hs, hx, hrun, Result.andThen]
    exact hK _ _ (h v w (by simpa using hown) (World.grownBy.refl w _) (.inl rfl))
  | some ad =>
    have hcells : ∀ j u, news[j]? = some u → w.cell? (ad.add j) = some u := by
      intro j u hu
      rcases Nat.eq_zero_or_pos m with h0 | h0
      · subst h0
        have hnil : news = [] := List.eq_nil_of_length_eq_zero (by simpa using hr.1)
        subst hnil; simp at hu
      · obtain ⟨b, off, he, _, hc⟩ := hr.2 h0
        injection he with he
        subst he
        rw [plus_addr]; exact hc j u hu
    exact wpList_append_own_at w hgd s x t ho base e i z size bytes ht hi hz hsize hby hzs hsz v n xs hs hown ad m c news hx hr.1 hcells h1 (by unfold maxLen; omega) hbytes hbase fun v' w' h1 h2 _ h4 => h v' w' h1 h2 h4

theorem below_own {B : Nat} {a w w' : World} {base e size n : Nat} {v : Value} {xs : List Value} (h : Below B a w) (hg : w.grownBy w' v.ownBlock) (hown : w.ownsRow base e size v n xs) (hB : B ≤ base) (hw : B ≤ w.heap.size) : Below B a w' :=
  h.grown hg hw fun k hk => Nat.le_trans hB (hown.lt k hk).1

/-- 'append([]T(nil), x...)': a slice of the call's own that holds what x holds. -/
theorem wpList_append_nil {P : Program} (w : World) {ops : Array Oper} {rest : List Oper} {o : Oper} {a : Act} {Q : Exit → Act → World → Prop} (hgd : o.guard = none) (x : Operand) (t : TypeId)
    (ho : o.op = .call { callee := .builtin .append, args := #[.const (.slice none 0 0), x], argTypes := #[t, t] })
    (e : TypeId) (i : TypeInfo) (z : Value) (size bytes : Nat) (ht : P.underlying t = some (.slice e)) (hi : P.info? e = some i) (hz : i.zero = some z)
    (hsize : i.size = size) (hby : i.bytes = bytes) (hzs : z.cells.size = size) (hsz : 0 < size)
    (B : Nat) (A : Option Addr) (m c : Nat) (news : List Value) (hr : Holds w B size A m news) (hx : a.eval x = .slice A m c) (hA : A = none → c = 0) (h1 : ∀ u ∈ news, u.oneCell' = true)
    (hn : m ≤ 1048576) (hb : bytes ≤ 65536)
    (h : ∀ A' c' w', w'.ownsRow w.heap.size e size (.slice A' m c') m news → Holds w' w'.heap.size size A' m news → (A' = none → c' = 0) → Below w.heap.size w w' → wpList P ops Q rest (a.put o.dst (.slice A' m c')) w') :
    wpList P ops Q (o :: rest) a w := by
  refine wpList_append_all w hgd _ x t ho w.heap.size e i z size bytes ht hi hz hsize hby hzs hsz (.slice none 0 0) 0 [] rfl (World.ownsRow_nil _ _ _ _) B A m c news hx hA hr h1 (by omega) hb (Nat.le_refl _) ?_
  intro v' w' hown hg _
  have hown' : w'.ownsRow w.heap.size e size v' m news := by simpa using hown
  obtain ⟨A', c', rfl, hA'⟩ := own_form hown'
  exact h A' c' w' hown' (Holds.own hown') (fun h => (hA' h).2) ((Below.refl _ _).grown hg (Nat.le_refl _) (by simp [Value.ownBlock]))

/-- The string of the bytes of a slice. -/
theorem run_convert_bytes {P : Program} {w : World} {B n : Nat} {A : Option Addr} {c : Nat} {l : List UInt8} (src dst e : TypeId) (hs : P.underlying src = some (.slice e)) (he : P.underlying e = some (.int .u8)) (hd : P.underlying dst = some .string)
    (h : Holds w B 1 A n (l.map bv)) (_hA : A = none → n = 0) : (convert src dst (.slice A n c)).run P w = .ok (str l) w := by
  have hl := h.len
  by_cases h0 : 0 < n
  · obtain ⟨b, off, rfl, _, hc⟩ := h.2 h0
    have := run_convert_bytes_arg (P := P) w src e hs he b off n c (l.map fun b => (b.toNat : Int)) (by simpa using hl) (fun i hi => by
      have hil : i < l.length := by omega
      rw [hc i (bv l[i]) (by simp [List.getElem?_eq_getElem hil])]
      simp [bv, List.getD, List.getElem?_eq_getElem hil]) dst hd
    rw [this]
    simp [strOfNums, str, Function.comp_def]
  · have hn : n = 0 := by omega
    subst hn
    have : l = [] := List.eq_nil_of_length_eq_zero hl
    subst this
    cases A with
    | none => exact run_convert_bytes_nil w src e hs he 0 c dst hd
    | some x =>
      rw [run_convert_bytes_string w src dst e _ 0 c hs he hd, run_bytesToString w x 0 c [] (run_loadCells_list (P := P) w x [] (by simp))]
      rfl
end Go.Proofs.Ytmlgaedhfannmaa

/- Small words that several texts share. -/
namespace Go.Proofs.Ytmlgaedhfannmaa
set_option linter.unusedVariables false
set_option linter.unusedSimpArgs false
open Go.RowKit
theorem ret_bool {a b : Bool} (h : a = b) : Ending.returned (.bool a) = .returned (.bool b) := by rw [h]
theorem below_drewN {B : Nat} {a w : World} (h : Below B a w) (n : Nat) : Below B a (w.drewN n) := ⟨h.os, h.tape, h.output, h.size, h.block⟩
end Go.Proofs.Ytmlgaedhfannmaa

/- Plain mathematics of package json: values, what is wrong with one, its text, and the text as the program writes it. Nothing of the program is named here. -/
namespace Go.Proofs.Ytmlgaedhfannmaa
set_option linter.unusedVariables false
set_option linter.unusedSimpArgs false

/-- A value of package api. -/
inductive JV where
  | mk (kind num : Int) (text : List UInt8) (keys : List (List UInt8)) (parts : List JV) : JV
namespace JV
def kind : JV → Int | mk k _ _ _ _ => k
def num : JV → Int | mk _ n _ _ _ => n
def text : JV → List UInt8 | mk _ _ t _ _ => t
def keys : JV → List (List UInt8) | mk _ _ _ ks _ => ks
def parts : JV → List JV | mk _ _ _ _ ps => ps
end JV

/-- Each is less than the next. -/
def incr : List (List UInt8) → Bool
  | a :: b :: r => Op.bytesLess a b && incr (b :: r)
  | _ => true
def unused (v : JV) : Bool :=
  (v.num != 0 && v.kind != 4) || (!v.text.isEmpty && v.kind != 5) || (decide (0 < v.keys.length) && v.kind != 7) || (decide (0 < v.parts.length) && (v.kind != 6 && v.kind != 7))
def alone (v : JV) (d : Nat) : Int :=
  if 6 ≤ d then 5 else if v.kind < 1 ∨ 7 < v.kind then 3 else if unused v = true then 4
  else if v.kind = 7 ∧ (v.keys.length ≠ v.parts.length ∨ incr v.keys = false) then 4
  else if v.num ≤ -9007199254740992 ∨ 9007199254740992 ≤ v.num then 2 else 0
mutual
def fault : Nat → JV → Int
  | d, .mk k n t ks ps => if alone (.mk k n t ks ps) d ≠ 0 then alone (.mk k n t ks ps) d else faults (d + 1) ps
def faults : Nat → List JV → Int
  | _, [] => 0
  | d, p :: r => if fault d p ≠ 0 then fault d p else faults d r
end
mutual
def count : JV → Nat
  | .mk _ _ _ _ ps => 1 + counts ps
def counts : List JV → Nat
  | [] => 0
  | p :: r => count p + counts r
end

def hexD (n : Nat) : UInt8 := if n < 10 then UInt8.ofNat (48 + n) else UInt8.ofNat (87 + n)
def esc (c : UInt8) : List UInt8 :=
  if c = 34 then [92, 34] else if c = 92 then [92, 92] else if c = 8 then [92, 98] else if c = 9 then [92, 116] else if c = 10 then [92, 110]
  else if c = 12 then [92, 102] else if c = 13 then [92, 114] else if c.toNat < 32 then [92, 117, 48, 48, hexD (c.toNat / 16), hexD (c.toNat % 16)] else [c]
def quo (s : List UInt8) : List UInt8 := 34 :: (s.flatMap esc ++ [34])
def tNull : List UInt8 := [110, 117, 108, 108]
def tFalse : List UInt8 := [102, 97, 108, 115, 101]
def tTrue : List UInt8 := [116, 114, 117, 101]
/-- What stands ahead of a part that is not the first. -/
def sep (f : Bool) : List UInt8 := if f then [] else [44]
mutual
def jtext : JV → List UInt8
  | .mk k n t ks ps => if k = 1 then tNull else if k = 2 then tFalse else if k = 3 then tTrue else if k = 4 then Lib.itoa n else if k = 5 then quo t
    else if k = 6 then 91 :: (jarr true ps ++ [93]) else 123 :: (jobj true ks ps ++ [125])
def jarr : Bool → List JV → List UInt8
  | _, [] => []
  | f, p :: r => sep f ++ (jtext p ++ jarr false r)
def jobj : Bool → List (List UInt8) → List JV → List UInt8
  | _, _, [] => []
  | _, [], _ => []
  | f, k :: ks, p :: ps => sep f ++ (quo k ++ (58 :: (jtext p ++ jobj false ks ps)))
end

/-! ### the text as the program writes it -/
def wrChars : List UInt8 → List UInt8 → List UInt8
  | b, [] => b
  | b, c :: s => if b.length ≤ 600 then wrChars (b ++ esc c) s else b
def wrStr (b s : List UInt8) : List UInt8 := wrChars (b ++ [34]) s ++ [34]
mutual
def wr : List UInt8 → JV → List UInt8
  | b, .mk k n t ks ps => if k = 1 then b ++ tNull else if k = 2 then b ++ tFalse else if k = 3 then b ++ tTrue else if k = 4 then b ++ Lib.itoa n else if k = 5 then wrStr b t
    else if k = 6 then wrArr true (b ++ [91]) ps ++ [93] else wrObj true (b ++ [123]) ks ps ++ [125]
def wrArr : Bool → List UInt8 → List JV → List UInt8
  | _, b, [] => b
  | f, b, p :: r => wrArr false (wr (b ++ sep f) p) r
def wrObj : Bool → List UInt8 → List (List UInt8) → List JV → List UInt8
  | _, b, _, [] => b
  | _, b, [], _ => b
  | f, b, k :: ks, p :: ps => wrObj false (wr (wrStr (b ++ sep f) k ++ [58]) p) ks ps
end

/-- The same, or both too long. -/
def Sim (b T : List UInt8) : Prop := b = T ∨ (600 < b.length ∧ 600 < T.length)
theorem Sim.app {b T : List UInt8} (h : Sim b T) (x : List UInt8) : Sim (b ++ x) (T ++ x) := by
  rcases h with rfl | ⟨h1, h2⟩
  · exact .inl rfl
  · exact .inr ⟨by simp; omega, by simp; omega⟩
theorem Sim.chars : ∀ (s : List UInt8) {b T : List UInt8}, Sim b T → Sim (wrChars b s) (T ++ s.flatMap esc)
  | [], b, T, h => by simpa [wrChars] using h
  | c :: s, b, T, h => by
    unfold wrChars
    by_cases hb : b.length ≤ 600
    · rw [if_pos hb]
      have := Sim.chars s (h.app (esc c))
      simpa [List.append_assoc] using this
    · rw [if_neg hb]
      refine .inr ⟨by omega, ?_⟩
      rcases h with rfl | ⟨_, h2⟩
      · simp; omega
      · simp; omega
theorem Sim.str {b T : List UInt8} (h : Sim b T) (s : List UInt8) : Sim (wrStr b s) (T ++ quo s) := by
  have := (Sim.chars s (h.app [34])).app [34]
  simpa [wrStr, quo] using this
mutual
theorem wr_sim : ∀ (v : JV) {b T : List UInt8}, Sim b T → Sim (wr b v) (T ++ jtext v)
  | .mk k n t ks ps, b, T, h => by
    unfold wr jtext
    by_cases h1 : k = 1
    · simp only [if_pos h1]; exact h.app _
    by_cases h2 : k = 2
    · simp only [if_neg h1, if_pos h2]; exact h.app _
    by_cases h3 : k = 3
    · simp only [if_neg h1, if_neg h2, if_pos h3]; exact h.app _
    by_cases h4 : k = 4
    · simp only [if_neg h1, if_neg h2, if_neg h3, if_pos h4]; exact h.app _
    by_cases h5 : k = 5
    · simp only [if_neg h1, if_neg h2, if_neg h3, if_neg h4, if_pos h5]; exact h.str _
    by_cases h6 : k = 6
    · simp only [if_neg h1, if_neg h2, if_neg h3, if_neg h4, if_neg h5, if_pos h6]
      have := (wrArr_sim true ps (h.app [91])).app [93]
      simpa using this
    · simp only [if_neg h1, if_neg h2, if_neg h3, if_neg h4, if_neg h5, if_neg h6]
      have := (wrObj_sim true ks ps (h.app [123])).app [125]
      simpa using this
theorem wrArr_sim : ∀ (f : Bool) (ps : List JV) {b T : List UInt8}, Sim b T → Sim (wrArr f b ps) (T ++ jarr f ps)
  | f, [], b, T, h => by simpa [wrArr, jarr] using h
  | f, p :: r, b, T, h => by
    unfold wrArr jarr
    have := wrArr_sim false r (wr_sim p (h.app (sep f)))
    simpa [List.append_assoc] using this
theorem wrObj_sim : ∀ (f : Bool) (ks : List (List UInt8)) (ps : List JV) {b T : List UInt8}, Sim b T → Sim (wrObj f b ks ps) (T ++ jobj f ks ps)
  | f, ks, [], b, T, h => by simpa [wrObj, jobj] using h
  | f, [], p :: ps, b, T, h => by simpa [wrObj, jobj] using h
  | f, k :: ks, p :: ps, b, T, h => by
    unfold wrObj jobj
    have := wrObj_sim false ks ps (wr_sim p (((h.app (sep f)).str k).app [58]))
    simpa [List.append_assoc] using this
end
theorem wr_nil (v : JV) : wr [] v = jtext v ∨ (600 < (wr [] v).length ∧ 600 < (jtext v).length) := by
  have := wr_sim v (b := []) (T := []) (.inl rfl)
  simpa [Sim] using this

/-! ### how long it may be -/
theorem esc_le (c : UInt8) : (esc c).length ≤ 6 := by
  unfold esc; repeat' split
  all_goals simp
theorem sep_le (f : Bool) : (sep f).length ≤ 1 := by cases f <;> simp [sep]
theorem wrChars_le : ∀ (s b : List UInt8), (wrChars b s).length ≤ max b.length 606
  | [], b => by simp [wrChars]; omega
  | c :: s, b => by
    unfold wrChars
    by_cases hb : b.length ≤ 600
    · rw [if_pos hb]
      have h1 := wrChars_le s (b ++ esc c)
      have h2 := esc_le c
      simp at h1; omega
    · rw [if_neg hb]; omega
theorem wrStr_le (s b : List UInt8) : (wrStr b s).length ≤ b.length + 608 := by
  have := wrChars_le s (b ++ [34])
  simp [wrStr] at *; omega
theorem wrChars_ge : ∀ (s b : List UInt8), b.length ≤ (wrChars b s).length
  | [], b => by simp [wrChars]
  | c :: s, b => by
    unfold wrChars
    by_cases hb : b.length ≤ 600
    · rw [if_pos hb]
      have h1 := wrChars_ge s (b ++ esc c)
      simp at h1; omega
    · rw [if_neg hb]; omega
theorem count_pos (v : JV) : 0 < count v := by cases v; simp [count]; omega
theorem fault_parts {d : Nat} {k n : Int} {t : List UInt8} {ks : List (List UInt8)} {ps : List JV} (h : fault d (.mk k n t ks ps) = 0) : alone (.mk k n t ks ps) d = 0 ∧ faults (d + 1) ps = 0 := by
  unfold fault at h
  by_cases h1 : alone (.mk k n t ks ps) d = 0
  · rw [if_neg (by simpa using h1)] at h; exact ⟨h1, h⟩
  · rw [if_pos h1] at h; exact absurd h h1
theorem faults_cons {d : Nat} {p : JV} {r : List JV} (h : faults d (p :: r) = 0) : fault d p = 0 ∧ faults d r = 0 := by
  unfold faults at h
  by_cases h1 : fault d p = 0
  · rw [if_neg (by simpa using h1)] at h; exact ⟨h1, h⟩
  · rw [if_pos h1] at h; exact absurd h h1
theorem alone_facts {d : Nat} {k n : Int} {t : List UInt8} {ks : List (List UInt8)} {ps : List JV} (h : alone (.mk k n t ks ps) d = 0) :
    d < 6 ∧ 1 ≤ k ∧ k ≤ 7 ∧ (k = 7 → ks.length = ps.length ∧ incr ks = true) ∧ -9007199254740992 < n ∧ n < 9007199254740992 ∧ unused (.mk k n t ks ps) = false := by
  replace h : (if 6 ≤ d then (5 : Int) else if k < 1 ∨ 7 < k then 3 else if unused (.mk k n t ks ps) = true then 4
    else if k = 7 ∧ (ks.length ≠ ps.length ∨ incr ks = false) then 4
    else if n ≤ -9007199254740992 ∨ 9007199254740992 ≤ n then 2 else 0) = 0 := h
  by_cases h1 : 6 ≤ d
  · rw [if_pos h1] at h; cases h
  rw [if_neg h1] at h
  by_cases h2 : k < 1 ∨ 7 < k
  · rw [if_pos h2] at h; cases h
  rw [if_neg h2] at h
  by_cases h3 : unused (.mk k n t ks ps) = true
  · rw [if_pos h3] at h; cases h
  rw [if_neg h3] at h
  by_cases h4 : k = 7 ∧ (ks.length ≠ ps.length ∨ incr ks = false)
  · rw [if_pos h4] at h; cases h
  rw [if_neg h4] at h
  by_cases h5 : n ≤ -9007199254740992 ∨ 9007199254740992 ≤ n
  · rw [if_pos h5] at h; cases h
  refine ⟨by omega, by omega, by omega, fun h7 => ⟨?_, ?_⟩, by omega, by omega, by simpa using h3⟩
  · exact Classical.byContradiction fun hc => h4 ⟨h7, .inl hc⟩
  · cases hi : incr ks
    · exact absurd ⟨h7, .inr hi⟩ h4
    · rfl
mutual
theorem wr_le : ∀ (d : Nat) (v : JV) (b : List UInt8), fault d v = 0 → (wr b v).length + 640 ≤ b.length + 1300 * count v
  | d, .mk k n t ks ps, b, h => by
    obtain ⟨h1, h2⟩ := fault_parts h
    obtain ⟨_, _, _, _, hn1, hn2, _⟩ := alone_facts h1
    unfold wr count
    have hi := Lib.itoa_length_le n (by omega) (by omega)
    have hs := wrStr_le t b
    have ha := wrArr_le (d + 1) true ps (b ++ [91]) h2
    have ho := wrObj_le (d + 1) true ks ps (b ++ [123]) h2
    repeat' split
    all_goals simp [tNull, tFalse, tTrue] at *; omega
theorem wrArr_le : ∀ (d : Nat) (f : Bool) (ps : List JV) (b : List UInt8), faults d ps = 0 → (wrArr f b ps).length ≤ b.length + 1300 * counts ps
  | d, f, [], b, _ => by simp [wrArr]
  | d, f, p :: r, b, h => by
    obtain ⟨h5, h6⟩ := faults_cons h
    unfold wrArr counts
    have h1 := wr_le d p (b ++ sep f) h5
    have h2 := wrArr_le d false r (wr (b ++ sep f) p) h6
    have h3 := sep_le f
    simp at h1; omega
theorem wrObj_le : ∀ (d : Nat) (f : Bool) (ks : List (List UInt8)) (ps : List JV) (b : List UInt8), faults d ps = 0 → (wrObj f b ks ps).length ≤ b.length + 1300 * counts ps
  | d, f, ks, [], b, _ => by simp [wrObj]
  | d, f, [], p :: ps, b, _ => by simp [wrObj]
  | d, f, k :: ks, p :: ps, b, h => by
    obtain ⟨h5, h6⟩ := faults_cons h
    unfold wrObj counts
    have h1 := wr_le d p (wrStr (b ++ sep f) k ++ [58]) h5
    have h2 := wrObj_le d false ks ps (wr (wrStr (b ++ sep f) k ++ [58]) p) h6
    have h3 := sep_le f
    have h4 := wrStr_le k (b ++ sep f)
    simp at h1 h4; omega
end
end Go.Proofs.Ytmlgaedhfannmaa

/- How a value of package api lies in memory; a block that is known whole. Nothing of the program is named here. -/
namespace Go.Proofs.Ytmlgaedhfannmaa
set_option linter.unusedVariables false
set_option linter.unusedSimpArgs false
open Go.RowKit

mutual
/-- The five cells cs are those of the value; what it points to lies below block B. -/
def VIn (w : World) (B : Nat) : JV → List Value → Prop
  | .mk k n t ks ps, cs => ∃ (Ak : Option Addr) (ck : Nat) (Ap : Option Addr) (cp : Nat) (pc : List Value),
      cs = [.int .i64 k, .int .i64 n, str t, .slice Ak ks.length ck, .slice Ap ps.length cp] ∧
      (-9223372036854775808 ≤ k ∧ k ≤ 9223372036854775807) ∧ (-9223372036854775808 ≤ n ∧ n ≤ 9223372036854775807) ∧
      t.length ≤ 1048576 ∧ ks.length ≤ 1048576 ∧ ps.length ≤ 1048576 ∧ (∀ s ∈ ks, s.length ≤ 1048576) ∧ ks.length ≤ ck ∧ ps.length ≤ cp ∧
      Holds w B 1 Ak ks.length (ks.map str) ∧ Holds w B 5 Ap ps.length pc ∧ PIn w B ps pc
def PIn (w : World) (B : Nat) : List JV → List Value → Prop
  | [], pc => pc = []
  | p :: r, pc => ∃ c rest, pc = c ++ rest ∧ VIn w B p c ∧ PIn w B r rest
end

theorem VIn.len {w : World} {B : Nat} {v : JV} {cs : List Value} (h : VIn w B v cs) : cs.length = 5 := by
  cases v; unfold VIn at h; obtain ⟨_, _, _, _, _, rfl, _⟩ := h; rfl
mutual
theorem VIn.kept {w w' : World} {B : Nat} (hk : ∀ p : Addr, p.block < B → w'.cell? p = w.cell? p) : ∀ (v : JV) (cs : List Value), VIn w B v cs → VIn w' B v cs
  | .mk k n t ks ps, cs, h => by
    unfold VIn at h ⊢
    obtain ⟨Ak, ck, Ap, cp, pc, h1, h2, h3, h4, h5, h6, h7, h8, h9, h10, h11, h12⟩ := h
    exact ⟨Ak, ck, Ap, cp, pc, h1, h2, h3, h4, h5, h6, h7, h8, h9, h10.kept hk, h11.kept hk, PIn.kept hk ps pc h12⟩
theorem PIn.kept {w w' : World} {B : Nat} (hk : ∀ p : Addr, p.block < B → w'.cell? p = w.cell? p) : ∀ (ps : List JV) (pc : List Value), PIn w B ps pc → PIn w' B ps pc
  | [], pc, h => by unfold PIn at h ⊢; exact h
  | p :: r, pc, h => by
    unfold PIn at h ⊢
    obtain ⟨c, rest, h1, h2, h3⟩ := h
    exact ⟨c, rest, h1, VIn.kept hk p c h2, PIn.kept hk r rest h3⟩
end
mutual
theorem VIn.wider {w : World} {B B' : Nat} (hB : B ≤ B') : ∀ (v : JV) (cs : List Value), VIn w B v cs → VIn w B' v cs
  | .mk k n t ks ps, cs, h => by
    unfold VIn at h ⊢
    obtain ⟨Ak, ck, Ap, cp, pc, h1, h2, h3, h4, h5, h6, h7, h8, h9, h10, h11, h12⟩ := h
    exact ⟨Ak, ck, Ap, cp, pc, h1, h2, h3, h4, h5, h6, h7, h8, h9, h10.wider hB, h11.wider hB, PIn.wider hB ps pc h12⟩
theorem PIn.wider {w : World} {B B' : Nat} (hB : B ≤ B') : ∀ (ps : List JV) (pc : List Value), PIn w B ps pc → PIn w B' ps pc
  | [], pc, h => by unfold PIn at h ⊢; exact h
  | p :: r, pc, h => by
    unfold PIn at h ⊢
    obtain ⟨c, rest, h1, h2, h3⟩ := h
    exact ⟨c, rest, h1, VIn.wider hB p c h2, PIn.wider hB r rest h3⟩
end
theorem VIn.below {w w' : World} {B : Nat} {v : JV} {cs : List Value} (h : VIn w B v cs) (hb : Below B w w') : VIn w' B v cs := VIn.kept (fun _ hp => hb.cell hp) v cs h
theorem PIn.below {w w' : World} {B : Nat} {v : List JV} {cs : List Value} (h : PIn w B v cs) (hb : Below B w w') : PIn w' B v cs := PIn.kept (fun _ hp => hb.cell hp) v cs h

/-- A part, by its place: its five cells stand in the row from 5 * i on. -/
theorem PIn.at_ {w : World} {B : Nat} : ∀ {ps : List JV} {pc : List Value} (i : Nat) (hi : i < ps.length), PIn w B ps pc → ∃ c, VIn w B ps[i] c ∧ ∀ j u, c[j]? = some u → pc[i * 5 + j]? = some u
  | [], pc, i, hi, h => by simp at hi
  | p :: r, pc, 0, hi, h => by
    unfold PIn at h
    obtain ⟨c, rest, rfl, h2, h3⟩ := h
    refine ⟨c, h2, fun j u hu => ?_⟩
    have hj : j < c.length := (List.getElem?_eq_some_iff.1 hu).1
    rw [Nat.zero_mul, Nat.zero_add, List.getElem?_append_left hj]; exact hu
  | p :: r, pc, i + 1, hi, h => by
    unfold PIn at h
    obtain ⟨c, rest, rfl, h2, h3⟩ := h
    obtain ⟨c', h4, h5⟩ := PIn.at_ i (by simpa using hi) h3
    refine ⟨c', by simpa using h4, fun j u hu => ?_⟩
    have hl := h2.len
    rw [List.getElem?_append_right (by omega), hl, show (i + 1) * 5 + j - 5 = i * 5 + j by omega]
    exact h5 j u hu

/-- The five cells, behind the slice's own address. -/
theorem part_cells {w : World} {B : Nat} {Ap : Option Addr} {ps : List JV} {pc : List Value} (hh : Holds w B 5 Ap ps.length pc) (hp : PIn w B ps pc) (i : Nat) (hi : i < ps.length) :
    ∃ b off k n t Ak nk ck Ap' np cp, Ap = some ⟨b, off, none⟩ ∧ b < B ∧ VIn w B ps[i] [.int .i64 k, .int .i64 n, str t, .slice Ak nk ck, .slice Ap' np cp] ∧
      w.cell? ⟨b, off + i * 5, none⟩ = some (.int .i64 k) ∧ w.cell? ⟨b, off + i * 5 + 1, none⟩ = some (.int .i64 n) ∧ w.cell? ⟨b, off + i * 5 + 2, none⟩ = some (str t) ∧
      w.cell? ⟨b, off + i * 5 + 3, none⟩ = some (.slice Ak nk ck) ∧ w.cell? ⟨b, off + i * 5 + 4, none⟩ = some (.slice Ap' np cp) := by
  obtain ⟨c, hc, hat⟩ := PIn.at_ i hi hp
  obtain ⟨b, off, rfl, hb, hcell⟩ := hh.2 (by omega)
  generalize hq : ps[i] = q at hc
  cases q with
  | mk k n t ks qs =>
    have hc' := hc
    unfold VIn at hc'
    obtain ⟨Ak, ck, Ap', cp, pc', rfl, _⟩ := hc'
    refine ⟨b, off, k, n, t, Ak, ks.length, ck, Ap', qs.length, cp, rfl, hb, hc, ?_, ?_, ?_, ?_, ?_⟩
    · exact hcell _ _ (hat 0 _ rfl)
    · rw [Nat.add_assoc]; exact hcell _ _ (hat 1 _ rfl)
    · rw [Nat.add_assoc]; exact hcell _ _ (hat 2 _ rfl)
    · rw [Nat.add_assoc]; exact hcell _ _ (hat 3 _ rfl)
    · rw [Nat.add_assoc]; exact hcell _ _ (hat 4 _ rfl)

/-! ### a block that is known whole -/
def Blk (w : World) (g : Nat) (t : TypeId) (cs : Array Value) : Prop := w.heap[g]? = some (.cells cs t (0, 0))
section
variable {w w' : World} {g : Nat} {t : TypeId} {cs : Array Value}
theorem Blk.lt (h : Blk w g t cs) : g < w.heap.size := by
  rcases Nat.lt_or_ge g w.heap.size with hlt | hge
  · exact hlt
  · unfold Blk at h; rw [Array.getElem?_eq_none hge] at h; cases h
theorem Blk.cell (h : Blk w g t cs) (i : Nat) : w.cell? ⟨g, i, none⟩ = cs[i]? := by
  unfold Blk at h
  simp [World.cell?, h]
theorem Blk.frozen (h : Blk w g t cs) (i : Nat) : w.frozen? ⟨g, i, none⟩ = false := by
  unfold Blk at h
  simp [World.frozen?, h]
theorem Blk.new (w : World) (t : TypeId) (cs : Array Value) : Blk (w.alloc (.cells cs t)) w.heap.size t cs := by
  unfold Blk
  show (w.heap.push _)[w.heap.size]? = _
  simp
theorem Blk.alloc (h : Blk w g t cs) (o : Obj) : Blk (w.alloc o) g t cs := (Below.heap_alloc w o g h.lt).trans h
theorem Blk.set_ (h : Blk w g t cs) (i : Nat) (u : Value) : Blk (w.setCell ⟨g, i, none⟩ u) g t (cs.setIfInBounds i u) := by
  unfold Blk at h ⊢
  simp [World.setCell, Array.getElem?_modify, h]
theorem Blk.far (h : Blk w g t cs) {p : Addr} (hp : g ≠ p.block) (u : Value) : Blk (w.setCell p u) g t cs := (Below.heap_setCell w p u g hp).trans h
theorem Blk.below {B : Nat} (h : Blk w g t cs) (hb : Below B w w') (hg : g < B) : Blk w' g t cs := (hb.block g hg).trans h
theorem Blk.grown {row : Option Nat} (h : Blk w g t cs) (hb : w.grownBy w' row) (hg : some g ≠ row) : Blk w' g t cs := (hb.block g h.lt hg).trans h
end
/-! ### only block g, and what is new, has turned -/
theorem only_trans {a b c : World} {g : Option Nat} (h : a.grownBy b g) (k : b.grownBy c g) : a.grownBy c g :=
  ⟨k.os.trans h.os, k.tape.trans h.tape, k.output.trans h.output, Nat.le_trans h.size k.size, fun i hi hne => (k.block i (Nat.lt_of_lt_of_le hi h.size) hne).trans (h.block i hi hne)⟩
theorem only_alloc {a w : World} {row : Option Nat} (h : a.grownBy w row) (o : Obj) : a.grownBy (w.alloc o) row :=
  ⟨h.os, h.tape, h.output, Nat.le_trans h.size (by simp), fun i hi hne => (Below.heap_alloc w o i (Nat.lt_of_lt_of_le hi h.size)).trans (h.block i hi hne)⟩
theorem only_setCell {a w : World} {g : Nat} (h : a.grownBy w (some g)) {p : Addr} (hp : p.block = g ∨ a.heap.size ≤ p.block) (u : Value) : a.grownBy (w.setCell p u) (some g) :=
  ⟨h.os, h.tape, h.output, by simpa [World.setCell] using h.size, fun i hi hne => (Below.heap_setCell w p u i (by
    rintro rfl
    rcases hp with hp | hp
    · exact hne (by rw [hp])
    · omega)).trans (h.block i hi hne)⟩
theorem only_below {a w : World} (h : Below a.heap.size a w) (row : Option Nat) : a.grownBy w row := ⟨h.os, h.tape, h.output, h.size, fun i hi _ => h.block i hi⟩
theorem below_only {a w : World} {g : Nat} (h : a.grownBy w (some g)) {B : Nat} (hB : B ≤ g) (hw : B ≤ a.heap.size) : Below B a w :=
  ⟨h.os, h.tape, h.output, h.size, fun k hk => h.block k (by omega) (fun e => by injection e; omega)⟩
end Go.Proofs.Ytmlgaedhfannmaa

/- A value in memory whose blocks are known by a set: what a reader has made. -/
namespace Go.Proofs.Ytmlgaedhfannmaa
set_option linter.unusedVariables false
set_option linter.unusedSimpArgs false
open Go.RowKit

def HoldsS (w : World) (S : Nat → Prop) (size : Nat) (A : Option Addr) (n : Nat) (xs : List Value) : Prop :=
  xs.length = n * size ∧ (0 < n → ∃ b off, A = some ⟨b, off, none⟩ ∧ S b ∧ ∀ j u, xs[j]? = some u → w.cell? ⟨b, off + j, none⟩ = some u)
theorem HoldsS.kept {w w' : World} {S : Nat → Prop} {size n : Nat} {A : Option Addr} {xs : List Value} (h : HoldsS w S size A n xs) (hk : ∀ p : Addr, S p.block → w'.cell? p = w.cell? p) : HoldsS w' S size A n xs := by
  refine ⟨h.1, fun hn => ?_⟩
  obtain ⟨b, off, e, hb, hc⟩ := h.2 hn
  exact ⟨b, off, e, hb, fun j u hu => (hk _ hb).trans (hc j u hu)⟩
theorem HoldsS.mono {w : World} {S S' : Nat → Prop} {size n : Nat} {A : Option Addr} {xs : List Value} (h : HoldsS w S size A n xs) (hs : ∀ b, S b → S' b) : HoldsS w S' size A n xs := by
  refine ⟨h.1, fun hn => ?_⟩
  obtain ⟨b, off, e, hb, hc⟩ := h.2 hn
  exact ⟨b, off, e, hs b hb, hc⟩
theorem HoldsS.toB {w : World} {S : Nat → Prop} {B size n : Nat} {A : Option Addr} {xs : List Value} (h : HoldsS w S size A n xs) (hs : ∀ b, S b → b < B) : Holds w B size A n xs := by
  refine ⟨h.1, fun hn => ?_⟩
  obtain ⟨b, off, e, hb, hc⟩ := h.2 hn
  exact ⟨b, off, e, hs b hb, hc⟩
theorem HoldsS.nil {w : World} {S : Nat → Prop} {size : Nat} {A : Option Addr} : HoldsS w S size A 0 [] := ⟨by simp, fun h => absurd h (by omega)⟩
theorem HoldsS.own {w : World} {base : Nat} {e : TypeId} {size n c : Nat} {A : Option Addr} {xs : List Value} (h : w.ownsRow base e size (.slice A n c) n xs) : HoldsS w (fun b => base ≤ b ∧ b < w.heap.size) size A n xs := by
  refine ⟨h.1, fun hn => ?_⟩
  obtain ⟨b, off, rfl, hb, hc⟩ := (Holds.own h).2 hn
  refine ⟨b, off, rfl, ⟨?_, hb⟩, hc⟩
  rcases h.2 with ⟨hv, _⟩ | ⟨g, cap, cur, hv, hbg, _⟩
  · injection hv with hv; cases hv
  · injection hv with hv
    injection hv with hv
    injection hv with hv
    omega

mutual
def VInS (w : World) (S : Nat → Prop) : JV → List Value → Prop
  | .mk k n t ks ps, cs => ∃ (Ak : Option Addr) (ck : Nat) (Ap : Option Addr) (cp : Nat) (pc : List Value),
      cs = [.int .i64 k, .int .i64 n, str t, .slice Ak ks.length ck, .slice Ap ps.length cp] ∧
      (-9223372036854775808 ≤ k ∧ k ≤ 9223372036854775807) ∧ (-9223372036854775808 ≤ n ∧ n ≤ 9223372036854775807) ∧
      t.length ≤ 1048576 ∧ ks.length ≤ 1048576 ∧ ps.length ≤ 1048576 ∧ (∀ s ∈ ks, s.length ≤ 1048576) ∧ ks.length ≤ ck ∧ ps.length ≤ cp ∧
      HoldsS w S 1 Ak ks.length (ks.map str) ∧ HoldsS w S 5 Ap ps.length pc ∧ PInS w S ps pc
def PInS (w : World) (S : Nat → Prop) : List JV → List Value → Prop
  | [], pc => pc = []
  | p :: r, pc => ∃ c rest, pc = c ++ rest ∧ VInS w S p c ∧ PInS w S r rest
end
mutual
theorem VInS.kept {w w' : World} {S : Nat → Prop} (hk : ∀ p : Addr, S p.block → w'.cell? p = w.cell? p) : ∀ (v : JV) (cs : List Value), VInS w S v cs → VInS w' S v cs
  | .mk k n t ks ps, cs, h => by
    unfold VInS at h ⊢
    obtain ⟨Ak, ck, Ap, cp, pc, h1, h2, h3, h4, h5, h6, h7, h8, h9, h10, h11, h12⟩ := h
    exact ⟨Ak, ck, Ap, cp, pc, h1, h2, h3, h4, h5, h6, h7, h8, h9, h10.kept hk, h11.kept hk, PInS.kept hk ps pc h12⟩
theorem PInS.kept {w w' : World} {S : Nat → Prop} (hk : ∀ p : Addr, S p.block → w'.cell? p = w.cell? p) : ∀ (ps : List JV) (pc : List Value), PInS w S ps pc → PInS w' S ps pc
  | [], pc, h => by unfold PInS at h ⊢; exact h
  | p :: r, pc, h => by
    unfold PInS at h ⊢
    obtain ⟨c, rest, h1, h2, h3⟩ := h
    exact ⟨c, rest, h1, VInS.kept hk p c h2, PInS.kept hk r rest h3⟩
end
mutual
theorem VInS.mono {w : World} {S S' : Nat → Prop} (hs : ∀ b, S b → S' b) : ∀ (v : JV) (cs : List Value), VInS w S v cs → VInS w S' v cs
  | .mk k n t ks ps, cs, h => by
    unfold VInS at h ⊢
    obtain ⟨Ak, ck, Ap, cp, pc, h1, h2, h3, h4, h5, h6, h7, h8, h9, h10, h11, h12⟩ := h
    exact ⟨Ak, ck, Ap, cp, pc, h1, h2, h3, h4, h5, h6, h7, h8, h9, h10.mono hs, h11.mono hs, PInS.mono hs ps pc h12⟩
theorem PInS.mono {w : World} {S S' : Nat → Prop} (hs : ∀ b, S b → S' b) : ∀ (ps : List JV) (pc : List Value), PInS w S ps pc → PInS w S' ps pc
  | [], pc, h => by unfold PInS at h ⊢; exact h
  | p :: r, pc, h => by
    unfold PInS at h ⊢
    obtain ⟨c, rest, h1, h2, h3⟩ := h
    exact ⟨c, rest, h1, VInS.mono hs p c h2, PInS.mono hs r rest h3⟩
end
mutual
theorem VInS.toB {w : World} {S : Nat → Prop} {B : Nat} (hs : ∀ b, S b → b < B) : ∀ (v : JV) (cs : List Value), VInS w S v cs → VIn w B v cs
  | .mk k n t ks ps, cs, h => by
    unfold VInS at h
    unfold VIn
    obtain ⟨Ak, ck, Ap, cp, pc, h1, h2, h3, h4, h5, h6, h7, h8, h9, h10, h11, h12⟩ := h
    exact ⟨Ak, ck, Ap, cp, pc, h1, h2, h3, h4, h5, h6, h7, h8, h9, h10.toB hs, h11.toB hs, PInS.toB hs ps pc h12⟩
theorem PInS.toB {w : World} {S : Nat → Prop} {B : Nat} (hs : ∀ b, S b → b < B) : ∀ (ps : List JV) (pc : List Value), PInS w S ps pc → PIn w B ps pc
  | [], pc, h => by unfold PInS at h; unfold PIn; exact h
  | p :: r, pc, h => by
    unfold PInS at h
    unfold PIn
    obtain ⟨c, rest, h1, h2, h3⟩ := h
    exact ⟨c, rest, h1, VInS.toB hs p c h2, PInS.toB hs r rest h3⟩
end
theorem VInS.len {w : World} {S : Nat → Prop} {v : JV} {cs : List Value} (h : VInS w S v cs) : cs.length = 5 := by
  cases v; unfold VInS at h; obtain ⟨_, _, _, _, _, rfl, _⟩ := h; rfl
theorem VInS.form {w : World} {S : Nat → Prop} {v : JV} {cs : List Value} (h : VInS w S v cs) : ∃ k n t Ak nk ck Ap np cp, cs = [.int .i64 k, .int .i64 n, str t, .slice Ak nk ck, .slice Ap np cp] := by
  cases v; unfold VInS at h; obtain ⟨_, _, _, _, _, rfl, _⟩ := h; exact ⟨_, _, _, _, _, _, _, _, _, rfl⟩
theorem PInS.len {w : World} {S : Nat → Prop} : ∀ {ps : List JV} {pc : List Value}, PInS w S ps pc → pc.length = ps.length * 5
  | [], pc, h => by unfold PInS at h; subst h; rfl
  | p :: r, pc, h => by
    unfold PInS at h
    obtain ⟨c, rest, rfl, h2, h3⟩ := h
    rw [List.length_append, h2.len, PInS.len h3]; simp; omega
theorem PInS.snoc {w : World} {S : Nat → Prop} : ∀ {ps : List JV} {pc : List Value} {v : JV} {c : List Value}, PInS w S ps pc → VInS w S v c → PInS w S (ps ++ [v]) (pc ++ c)
  | [], pc, v, c, h, hv => by
    unfold PInS at h; subst h
    show PInS w S [v] c
    unfold PInS
    exact ⟨c, [], by simp, hv, by unfold PInS; rfl⟩
  | p :: r, pc, v, c, h, hv => by
    unfold PInS at h
    obtain ⟨c', rest, rfl, h2, h3⟩ := h
    show PInS w S (p :: (r ++ [v])) (c' ++ rest ++ c)
    unfold PInS
    exact ⟨c', rest ++ c, by simp, h2, h3.snoc hv⟩
theorem PInS.one {w : World} {S : Nat → Prop} : ∀ {ps : List JV} {pc : List Value}, PInS w S ps pc → ∀ u ∈ pc, u.oneCell' = true
  | [], pc, h, u, hu => by unfold PInS at h; subst h; simp at hu
  | p :: r, pc, h, u, hu => by
    unfold PInS at h
    obtain ⟨c', rest, rfl, h2, h3⟩ := h
    rcases List.mem_append.1 hu with h | h
    · obtain ⟨k, n, t, Ak, nk, ck, Ap, np, cp, rfl⟩ := h2.form
      simp at h
      rcases h with rfl | rfl | rfl | rfl | rfl <;> rfl
    · exact h3.one u h
/-- What is new. -/
def newS (w w' : World) (b : Nat) : Prop := w.heap.size ≤ b ∧ b < w'.heap.size
end Go.Proofs.Ytmlgaedhfannmaa
