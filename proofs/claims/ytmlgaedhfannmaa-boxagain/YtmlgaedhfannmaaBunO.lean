/- Joined texts: Open, Ints, OpenI, OpenV. -/
import Derived.Test.YtmlgaedhfannmaaBunA
import Derived.ProofKit
import Derived.OpenShut
import Derived.ShutString
import Derived.ChangeOld
import Derived.Test.YtmlgaedhfannmaaRows
import Derived.DataReads
/- How an argument that came in is read: a string, an integer, a bool, a slice of bytes. -/
namespace Go.Proofs.Ytmlgaedhfannmaa
set_option linter.unusedVariables false
set_option linter.unusedSimpArgs false
open Go.ChangeShapes Go.WideShapes Go.ChangeAt Go.RowKit
open Go.ChangeMaps (open_string)

/-- A slice of bytes that came in. -/
def BytesIn (w : World) (A : Option Addr) (n c : Nat) (l : List UInt8) : Prop :=
  Holds w w.heap.size 1 A n (l.map bv) ∧ n ≤ c ∧ c ≤ maxLen ∧ (A = none → c = 0)

theorem cell_lt {w : World} {a : Addr} {v : Value} (h : w.cell? a = some v) : a.block < w.heap.size := by
  rcases Nat.lt_or_ge a.block w.heap.size with hlt | hge
  · exact hlt
  · unfold World.cell? at h
    rw [Array.getElem?_eq_none hge] at h
    simp at h

section
variable {H : Type} {enc : TypeId × Value → H} {P : Program} {W : World} {base : Nat} {t e : TypeId} {v : Value} {d : DataW H} {ps : List MemPlace}
theorem open_bytes (ht : P.underlying t = some (.slice e)) (he : P.underlying e = some (.int .u8)) (hc : P.cellsOf e = 1)
    (hval : Value.okWide P W .any base t v) (hd : DataW.Trod enc P W 0 (fun _ => true) true t v d ps) : ∃ A n c l, v = .slice A n c ∧ BytesIn W A n c l := by
  obtain ⟨A, n, c, rfl⟩ := okWide_slice ht hval
  obtain ⟨fuel, hf⟩ := hd
  rcases open_ints ht he hc hf with ⟨hcs, _⟩ | ⟨x, n', c', zs, hcs, _, hl, hm, hz, _, hcell, hwz⟩
  · simp [Value.cells] at hcs
    obtain ⟨rfl, rfl, rfl⟩ := hcs
    exact ⟨none, 0, 0, [], rfl, Holds.empty, Nat.le_refl _, by unfold maxLen; omega, fun _ => rfl⟩
  · simp [Value.cells] at hcs
    obtain ⟨rfl, rfl, rfl⟩ := hcs
    simp only [if_true] at hz
    refine ⟨some x, n, c, (zs.take n).map fun z => UInt8.ofNat z.toNat, rfl, ⟨by simp [hz]; omega, fun hn => ?_⟩, hl, hm, fun h => by cases h⟩
    obtain ⟨b, off, spot⟩ := x
    have h0 := hcell 0 (by omega)
    have hspot : spot = none := by simpa [Addr.add] using World.cell?_spot h0
    subst hspot
    refine ⟨b, off, rfl, ?_, fun j u hu => ?_⟩
    · have := cell_lt h0
      rwa [plus_addr] at this
    · have hj : j < n := by
        rcases Nat.lt_or_ge j n with h | h
        · exact h
        · rw [List.getElem?_eq_none (by simp [hz]; omega)] at hu; cases hu
      have hjz : j < zs.length := by omega
      have h1 := hcell j hjz
      rw [plus_addr] at h1
      rw [h1]
      have hw := hwz zs[j] (List.getElem_mem hjz)
      have hb : 0 ≤ zs[j] ∧ zs[j] ≤ 255 := by simpa [Lit.wf, IntKind.min, IntKind.max, IntKind.signed, IntKind.bits] using hw
      simp [hj, List.getElem?_eq_getElem hjz] at hu
      subst hu
      simp only [List.getD, List.getElem?_eq_getElem hjz, Option.getD_some, bv, UInt8.toNat_ofNat']
      rw [Nat.mod_eq_of_lt (by omega)]
      congr 2
      omega

theorem open_str (ht : P.underlying t = some .string) (hval : Value.okWide P W .any base t v) (hd : DataW.Trod enc P W 0 (fun _ => true) true t v d ps) :
    ∃ l : List UInt8, v = str l ∧ l.length ≤ maxLen := by
  obtain ⟨s, rfl, _, _, hs⟩ := open_string ht hval hd
  obtain ⟨l, hl, hz⟩ := str_of s
  exact ⟨l, hl, by omega⟩

theorem open_i64 (ht : P.underlying t = some (.int .i64)) (hval : Value.okWide P W .any base t v) (hd : DataW.Trod enc P W 0 (fun _ => true) true t v d ps) :
    ∃ x : Int, v = .int .i64 x ∧ -9223372036854775808 ≤ x ∧ x ≤ 9223372036854775807 := by
  obtain ⟨x, rfl, _, _, hx⟩ := open_int ht hval hd
  have hb : -9223372036854775808 ≤ x ∧ x ≤ 9223372036854775807 := by simpa [Lit.wf, IntKind.min, IntKind.max, IntKind.signed, IntKind.bits] using hx
  exact ⟨x, rfl, hb.1, hb.2⟩

theorem open_u8 (ht : P.underlying t = some (.int .u8)) (hval : Value.okWide P W .any base t v) (hd : DataW.Trod enc P W 0 (fun _ => true) true t v d ps) :
    ∃ x : UInt8, v = bv x := by
  obtain ⟨x, rfl, _, _, hx⟩ := open_int ht hval hd
  have hb : 0 ≤ x ∧ x ≤ 255 := by simpa [Lit.wf, IntKind.min, IntKind.max, IntKind.signed, IntKind.bits] using hx
  refine ⟨UInt8.ofNat x.toNat, ?_⟩
  simp only [bv, UInt8.toNat_ofNat']
  rw [Nat.mod_eq_of_lt (by omega)]
  congr 1
  omega

theorem open_b (ht : P.underlying t = some .bool) (hval : Value.okWide P W .any base t v) (hd : DataW.Trod enc P W 0 (fun _ => true) true t v d ps) :
    ∃ x : Bool, v = .bool x := by
  obtain ⟨x, rfl, _, _⟩ := open_bool ht hval hd
  exact ⟨x, rfl⟩
end
end Go.Proofs.Ytmlgaedhfannmaa

/- A slice of integers that came in: words. -/
namespace Go.Proofs.Ytmlgaedhfannmaa
set_option linter.unusedVariables false
set_option linter.unusedSimpArgs false
open Go.RowKit

/-- A slice of integers that can be read. -/
def IntsAt (w : World) (B : Nat) (A : Option Addr) (n c : Nat) : Prop :=
  ∃ zs : List Int, Holds w B 1 A n (zs.map (Value.int .i64)) ∧ n ≤ c ∧ c ≤ 9223372036854775807 ∧ ∀ z ∈ zs, -9223372036854775808 ≤ z ∧ z ≤ 9223372036854775807
theorem IntsAt.below {w w' : World} {B : Nat} {A : Option Addr} {n c : Nat} (h : IntsAt w B A n c) (hb : Below B w w') : IntsAt w' B A n c := by
  obtain ⟨zs, h1, h2, h3, h4⟩ := h; exact ⟨zs, h1.below hb, h2, h3, h4⟩
theorem IntsAt.head {w : World} {B : Nat} {A : Option Addr} {n c : Nat} (h : IntsAt w B A n c) (hn : 0 < n) :
    ∃ b off z, A = some ⟨b, off, none⟩ ∧ b < B ∧ w.cell? ⟨b, off, none⟩ = some (.int .i64 z) ∧ -9223372036854775808 ≤ z ∧ z ≤ 9223372036854775807 := by
  obtain ⟨zs, h1, h2, h3, h4⟩ := h
  obtain ⟨b, off, u, e, hb, hu, hc⟩ := h1.at1 hn
  have hl : 0 < zs.length := by have := h1.1; simp at this; omega
  simp [List.getElem?_eq_getElem hl] at hu
  subst hu
  have := h4 zs[0] (List.getElem_mem hl)
  exact ⟨b, off, zs[0], e, hb, by simpa using hc, this.1, this.2⟩
theorem IntsAt.tail {w : World} {B : Nat} {A : Option Addr} {n c : Nat} (h : IntsAt w B A n c) (hn : 0 < n) : IntsAt w B (cutAt A c 1 1) (n - 1) (c - 1) := by
  obtain ⟨zs, h1, h2, h3, h4⟩ := h
  have hl : zs.length = n := by have := h1.1; simpa using this
  have := h1.cut (lo := 1) (hg := n) (c := c) (by omega) (Nat.le_refl _) h2
  refine ⟨zs.drop 1, ?_, by omega, by omega, fun z hz => h4 z (List.mem_of_mem_drop hz)⟩
  have e : ((zs.map (Value.int .i64)).drop (1 * 1)).take ((n - 1) * 1) = (zs.drop 1).map (Value.int .i64) := by
    rw [← List.map_drop]
    exact List.take_of_length_le (by simp; omega)
  rwa [e] at this
theorem IntsAt.at {w : World} {B : Nat} {A : Option Addr} {n c : Nat} (h : IntsAt w B A n c) {k : Nat} (hk : k < n) :
    ∃ b off z, A = some ⟨b, off, none⟩ ∧ b < B ∧ w.cell? ⟨b, off + k, none⟩ = some (.int .i64 z) ∧ -9223372036854775808 ≤ z ∧ z ≤ 9223372036854775807 := by
  obtain ⟨zs, h1, h2, h3, h4⟩ := h
  obtain ⟨b, off, u, e, hb, hu, hc⟩ := h1.at1 hk
  have hl : k < zs.length := by have := h1.1; simp at this; omega
  simp [List.getElem?_eq_getElem hl] at hu
  subst hu
  have := h4 zs[k] (List.getElem_mem hl)
  exact ⟨b, off, zs[k], e, hb, hc, this.1, this.2⟩
theorem IntsAt.wider {w : World} {B B' : Nat} {A : Option Addr} {n c : Nat} (h : IntsAt w B A n c) (hB : B ≤ B') : IntsAt w B' A n c := by
  obtain ⟨zs, h1, h2, h3, h4⟩ := h; exact ⟨zs, h1.wider hB, h2, h3, h4⟩
end Go.Proofs.Ytmlgaedhfannmaa

/- How a slice of integers that came in is read. -/
namespace Go.Proofs.Ytmlgaedhfannmaa
set_option linter.unusedVariables false
set_option linter.unusedSimpArgs false
open Go.ChangeShapes Go.WideShapes Go.ChangeAt Go.RowKit

section
variable {H : Type} {enc : TypeId × Value → H} {P : Program} {W : World} {base : Nat} {t e : TypeId} {v : Value} {d : DataW H} {ps : List MemPlace}
theorem open_intsl (ht : P.underlying t = some (.slice e)) (he : P.underlying e = some (.int .i64)) (hc : P.cellsOf e = 1)
    (hval : Value.okWide P W .any base t v) (hd : DataW.Trod enc P W 0 (fun _ => true) true t v d ps) : ∃ A n c, v = .slice A n c ∧ IntsAt W W.heap.size A n c := by
  obtain ⟨A, n, c, rfl⟩ := okWide_slice ht hval
  obtain ⟨fuel, hf⟩ := hd
  rcases open_ints ht he hc hf with ⟨hcs, _⟩ | ⟨x, n', c', zs, hcs, _, hl, hm, hz, _, hcell, hwz⟩
  · simp [Value.cells] at hcs
    obtain ⟨rfl, rfl, rfl⟩ := hcs
    exact ⟨none, 0, 0, rfl, [], Holds.empty, Nat.le_refl _, by omega, by simp⟩
  · simp [Value.cells] at hcs
    obtain ⟨rfl, rfl, rfl⟩ := hcs
    simp only [if_true] at hz
    refine ⟨some x, n, c, rfl, zs.take n, ⟨by simp [hz]; omega, fun hn => ?_⟩, hl, by unfold maxLen at hm; omega, ?_⟩
    · obtain ⟨b, off, spot⟩ := x
      have h0 := hcell 0 (by omega)
      have hspot : spot = none := by simpa [Addr.add] using World.cell?_spot h0
      subst hspot
      refine ⟨b, off, rfl, ?_, fun j u hu => ?_⟩
      · have := cell_lt h0
        rwa [plus_addr] at this
      · have hj : j < n := by
          rcases Nat.lt_or_ge j n with h | h
          · exact h
          · rw [List.getElem?_eq_none (by simp [hz]; omega)] at hu; cases hu
        have hjz : j < zs.length := by omega
        have h1 := hcell j hjz
        rw [plus_addr] at h1
        rw [h1]
        simp [hj, List.getElem?_eq_getElem hjz] at hu
        subst hu
        simp only [List.getD, List.getElem?_eq_getElem hjz, Option.getD_some]
    · intro z hz'
      have hw := hwz z (List.mem_of_mem_take hz')
      simpa [Lit.wf, IntKind.min, IntKind.max, IntKind.signed, IntKind.bits] using hw
end
end Go.Proofs.Ytmlgaedhfannmaa

/- How a value of package api that came in is read, where the arguments' bulk is bounded. -/
namespace Go.Proofs.Ytmlgaedhfannmaa
set_option linter.unusedVariables false
set_option linter.unusedSimpArgs false
open Go.ChangeShapes Go.WideShapes Go.ChangeAt Go.RowKit

section
variable {α X : Type} {W : World} {k : Nat} {f : List Value → Option X}
/-- Each of vs is read out of its own cells as the data beside it. -/
def Read3 (Q : α → List Value → X → Prop) : List α → List Value → List X → Prop
  | [], pc, [] => pc = []
  | v :: vs, pc, x :: xs => ∃ c rest, pc = c ++ rest ∧ Q v c x ∧ Read3 Q vs rest xs
  | _, _, _ => False

theorem Read3.len {Q : α → List Value → X → Prop} : ∀ {vs : List α} {pc : List Value} {xs : List X}, Read3 Q vs pc xs → vs.length = xs.length
  | [], pc, [], h => rfl
  | v :: vs, pc, x :: xs, h => by
    unfold Read3 at h
    obtain ⟨c, rest, _, _, h3⟩ := h
    simp [Read3.len h3]
  | [], pc, x :: xs, h => by simp [Read3] at h
  | v :: vs, pc, [], h => by simp [Read3] at h

theorem row_open {Q : α → List Value → X → Prop} : ∀ (elems : List X) (a : Addr),
    (∀ i, i < elems.length → (W.cells? 0 (a.add (i * k)) k).bind f = elems[i]?) →
    (∀ cs x, x ∈ elems → f cs = some x → ∃ v, Q v cs x) →
    ∃ vs pc, Read3 Q vs pc elems ∧ pc.length = elems.length * k ∧ ∀ j u, pc[j]? = some u → W.cell? (a.add j) = some u
  | [], a, h, hq => ⟨[], [], by simp [Read3], by simp, fun j u hu => by simp at hu⟩
  | x :: xs, a, h, hq => by
    have h0 := h 0 (by simp)
    simp only [List.getElem?_cons_zero, Option.bind_eq_some_iff] at h0
    obtain ⟨cs, hcs, hf⟩ := h0
    obtain ⟨v, hv⟩ := hq cs x (by simp) hf
    obtain ⟨_, hl, hc⟩ := World.cells?_some hcs
    have hadd : ∀ i j : Nat, (a.add i).add j = a.add (i + j) := by
      intro i j
      by_cases hi : i = 0 <;> by_cases hj : j = 0 <;> simp [Addr.add, hi, hj, Nat.add_assoc]
    obtain ⟨vs, pc, h1, h2, h3⟩ := row_open (Q := Q) xs (a.add k) (fun i hi => by
      have := h (i + 1) (by simpa using hi)
      rw [List.getElem?_cons_succ] at this
      rw [← this, hadd, show k + i * k = (i + 1) * k by rw [Nat.add_mul]; omega]) (fun cs' x' hx' => hq cs' x' (by simp [hx']))
    refine ⟨v :: vs, cs ++ pc, ?_, ?_, ?_⟩
    · unfold Read3
      exact ⟨cs, pc, rfl, hv, h1⟩
    · simp [hl, h2, Nat.add_mul]; omega
    · intro j u hu
      rcases Nat.lt_or_ge j k with hj | hj
      · rw [List.getElem?_append_left (by omega)] at hu
        have := hc j hj
        rw [hadd] at this
        simp only [Nat.zero_mul, Nat.zero_add] at this
        rw [this, hu]
      · rw [List.getElem?_append_right (by omega), hl] at hu
        have := h3 _ _ hu
        rw [hadd] at this
        rw [show k + (j - k) = j by omega] at this
        exact this

/-- Such a row, as a slice holds it. -/
theorem row_holds (hk : 0 < k) {a : Addr} {n : Nat} {pc : List Value} (hl : pc.length = n * k) (hc : ∀ j u, pc[j]? = some u → W.cell? (a.add j) = some u) : Holds W W.heap.size k (some a) n pc := by
  refine ⟨hl, fun hn => ?_⟩
  have hp : 0 < pc.length := by rw [hl]; exact Nat.mul_pos hn hk
  have h0 := hc 0 pc[0] (List.getElem?_eq_getElem hp)
  obtain ⟨b, off, spot⟩ := a
  have hspot : spot = none := by simpa [Addr.add] using World.cell?_spot h0
  subst hspot
  refine ⟨b, off, rfl, ?_, fun j u hu => ?_⟩
  · have := cell_lt h0
    rwa [plus_addr] at this
  · have := hc j u hu
    rwa [plus_addr] at this
end

section
variable {H : Type}
theorem bulk_mem {d : DataW H} : ∀ {l : List (DataW H)}, d ∈ l → Rows.uptoBulk d ≤ Rows.uptoBulkAll l
  | [], h => by simp at h
  | e :: r, h => by
    simp only [Rows.uptoBulkAll]
    rcases List.mem_cons.1 h with rfl | h
    · omega
    · have := bulk_mem h; omega
theorem bulk_pos (d : DataW H) : 0 < Rows.uptoBulk d := by
  cases d with
  | lit l => cases l <;> simp [Rows.uptoBulk]
  | _ => simp [Rows.uptoBulk]
theorem bulk_len : ∀ (l : List (DataW H)), l.length ≤ Rows.uptoBulkAll l
  | [] => by simp
  | e :: r => by
    simp only [Rows.uptoBulkAll, List.length_cons]
    have := bulk_len r; have := bulk_pos e; omega
end

section
variable {H : Type} {enc : TypeId × Value → H} {W : World}
theorem open_keys {n : Nat} {cs : List Value} {x : DataW H × List MemPlace} (h : DataW.trod enc Try.prog W 0 (fun _ => true) true n 90 cs = some x) (hb : Rows.uptoBulk x.1 ≤ 1048576) :
    ∃ (A : Option Addr) (ks : List (List UInt8)) (c : Nat), cs = [.slice A ks.length c] ∧ ks.length ≤ 1048576 ∧ (∀ s ∈ ks, s.length ≤ 1048576) ∧ ks.length ≤ c ∧ Holds W W.heap.size 1 A ks.length (ks.map str) := by
  rcases DataW.trod_slice Try.underlying90 h with ⟨rfl, _⟩ | ⟨a, len, cap, elems, rest, m, _, rfl, rfl, _, hlc, _, hl, hel, _, _⟩
  · exact ⟨none, [], 0, rfl, by simp, by simp, by simp, Holds.empty⟩
  · have hc : Try.prog.cellsOf 9 = 1 := by kernel_rfl
    rw [hc] at hel
    simp only [Rows.uptoBulk] at hb
    subst hl
    obtain ⟨ks, pc, h1, h2, h3⟩ := row_open (Q := fun (s : List UInt8) (c : List Value) (y : DataW H × List MemPlace) => c = [str s] ∧ s.length ≤ 1048576) elems a hel (fun c y hy hc => by
      obtain ⟨s, rfl, rfl, _⟩ := DataW.trod_string Try.underlying9 hc
      obtain ⟨l, hl, hz⟩ := str_of s
      refine ⟨l, by rw [hl], ?_⟩
      have := bulk_mem (List.mem_map_of_mem (f := (·.1)) hy)
      simp only [Rows.uptoBulk, Array.length_toList] at this
      have : s.size = s.data.size := rfl
      omega)
    have hpc : ∀ {ks : List (List UInt8)} {pc : List Value} {ys : List (DataW H × List MemPlace)}, Read3 (fun (s : List UInt8) (c : List Value) (y : DataW H × List MemPlace) => c = [str s] ∧ s.length ≤ 1048576) ks pc ys → pc = ks.map str ∧ ∀ s ∈ ks, s.length ≤ 1048576 := by
      intro ks
      induction ks with
      | nil =>
        intro pc ys h
        cases ys with
        | nil => simp only [Read3] at h; simp [h]
        | cons => simp [Read3] at h
      | cons s r ih =>
        intro pc ys h
        cases ys with
        | nil => simp [Read3] at h
        | cons y ys =>
          unfold Read3 at h
          obtain ⟨c, rest, rfl, ⟨rfl, hs⟩, h⟩ := h
          obtain ⟨rfl, hr⟩ := ih h
          exact ⟨rfl, by simpa using ⟨hs, hr⟩⟩
    obtain ⟨rfl, hs⟩ := hpc h1
    have hlen := h1.len
    have hbl := bulk_len (elems.map (·.1))
    rw [List.length_map] at hbl
    rw [← hlen] at h2 hlc hbl ⊢
    exact ⟨some a, ks, cap, rfl, by omega, hs, hlc, row_holds (by omega) (by simp) h3⟩

theorem five_of {α : Type} {l : List α} (h : l.length = 5) : ∃ a b c d e, l = [a, b, c, d, e] := by
  match l, h with
  | [a, b, c, d, e], _ => exact ⟨a, b, c, d, e, rfl⟩

theorem agg_of_cells {v : Value} (h : v.cells.toList.length = 5) : v = .agg v.cells.toList.toArray := by
  cases v <;> first | (simp [Value.cells] at h; done) | simp [Value.cells]
theorem bulk_of_small {ds : List (DataW H)} (hk : Rows.uptoSmall H ds = true) {d : DataW H} (hd : d ∈ ds) : Rows.uptoBulk d ≤ 1048576 :=
  Nat.le_trans (bulk_mem hd) (of_decide_eq_true hk)

end
end Go.Proofs.Ytmlgaedhfannmaa
