/- One-time keys: selected and left: the keys of a Sort that have not been given away. -/
import Derived.Test.YtaamoilkphjhgabKyCl
import Derived.Test.YtaamoilkphjhgabKyIt
import Derived.Test.YtaamoilkphjhgabKyRow
namespace Go.Proofs.Ytaamoilkphjhgab
set_option linter.unusedVariables false
set_option linter.unusedSimpArgs false
open Go.RowKit
/-- What slices.SortFunc does for selected. -/
def SrtN : Prop := ∀ (v : Value) (l : List Nm) (base : Nat) (w : World), w.ownsRow base 71 2 v l.length (pcN l) → l.length ≤ 1000 →
  Calls Try.prog 32 #[v, .func (.func 33) #[] #[]] w fun e w' => e = .returned (.tuple #[]) ∧
    ∃ l', l'.Perm l ∧ (l'.Pairwise fun a b => Op.bytesLess b.2 a.2 = false) ∧ w'.ownsRow base 71 2 v l.length (pcN l') ∧ Beside (fun i => some i = v.ownBlock) w w'
theorem Beside.of_grown {w w' : World} {row : Option Nat} (h : w.grownBy w' row) : Beside (fun i => row = some i) w w' :=
  ⟨h.os, h.tape, h.output, h.size, fun i hi hn => h.block i hi (fun e => hn e.symm)⟩
def SelR (w : World) (h : Nat) (s : Ks) (S : List UInt8) (gk : Nat) (v5 : Value) (wr : World) : Prop :=
  ∃ dn todo ob, v5.ownBlock = ob ∧ IterIs wr w.heap.size h ekN str okN s.up todo ∧ (dn ++ todo).Perm (s.up.map (·.1)) ∧ gk = todo.length ∧ wr.ownsRow (w.heap.size + 1) 71 2 v5 (dn.filter (wantN s S)).length (pcN (dn.filter (wantN s S))) ∧ Below w.heap.size w wr ∧ w.heap.size + 1 ≤ wr.heap.size
theorem cell_lt {w : World} {p : Addr} {v : Value} (h : w.cell? p = some v) : p.block < w.heap.size := by
  rcases Nat.lt_or_ge p.block w.heap.size with h' | h'
  · exact h'
  · unfold World.cell? at h; rw [Array.getElem?_eq_none h'] at h; simp at h
theorem rowN_kept {w w' : World} {base n : Nat} {v : Value} {xs : List Value} {N : Nat → Prop} (h : w.ownsRow base 71 2 v n xs) (hb : Beside N w w') (hN : ∀ b, base ≤ b → ¬ N b) : w'.ownsRow base 71 2 v n xs := by
  refine ⟨h.1, ?_⟩
  rcases h.2 with h0 | ⟨g, c, cur, h1, h2, h3, h4⟩
  · exact .inl h0
  · exact .inr ⟨g, c, cur, h1, h2, (hb.block g (Array.getElem?_eq_some_iff.1 h3).1 (hN g h2)).trans h3, h4⟩
set_option maxHeartbeats 4000000 in
set_option maxRecDepth 100000 in
theorem selected_any (hsrt : SrtN) (S : List UInt8) (s : Ks) (h bS bs : Nat) (w : World) (hk : KsIn w h s) (hup : s.up.length ≤ 1000) (cS : w.cell? ⟨bS, 0, none⟩ = some (str S)) (cs : w.cell? ⟨bs, 0, none⟩ = some (.pointer (some ⟨h + 4, 0, none⟩))) :
    Calls Try.prog 28 #[.pointer (some ⟨h + 4, 0, none⟩), .func (.func 29) #[] #[.pointer (some ⟨bS, 0, none⟩), .pointer (some ⟨bs, 0, none⟩)]] w fun e w' =>
      ∃ v, e = .returned v ∧ w'.ownsRow (w.heap.size + 1) 71 2 v (leftR s S).length (pcN (leftR s S)) ∧ Below w.heap.size w w' := by
  have c0 : w.cell? ⟨h + 4, 0, none⟩ = some (.map (some h)) := hk.box.cell 0
  have hhl := hk.lt
  have hlS := cell_lt cS
  have hls := cell_lt cs
  have hok := hk.ok
  have Hk := Lib.hid hk
  have HcS := Lib.hid cS
  have Hcs := Lib.hid cs
  have Hok := Lib.hid hok
  clear hk cS cs hok
  go_enter Try.func28, Try.ntmps28
  go_wp2_with (first
    | (at_range; refine wpList_range_it rfl _ 51 rfl Try.underlying51 rfl Hk.out.up ?_; intro w0 hit0 hb0 hs0)
    | fail)
  go_loopg [5] s.up.length (SelR w h s S)
  case atStart => exact ⟨[], s.up.map (·.1), _, rfl, hit0, List.Perm.refl _, by simp, World.ownsRow_nil _ _ _ _, hb0, by omega⟩
  case round =>
    obtain ⟨dn, todo, ob, hob, hit, hperm, hgk, hown, hbe, hsz⟩ := hrel
    have Hperm := Lib.hid hperm
    have Hgk := Lib.hid hgk
    have Hown := Lib.hid hown
    have Hbe := Lib.hid hbe
    have Hit := Lib.hid hit
    have Hob := Lib.hid hob
    clear hperm hgk hown hbe hit hob
    have Hlen : Hid (dn.length + todo.length ≤ 1000) := Lib.hid (by have := Hperm.out.length_eq; simp at this; omega)
    go_wp2_with (first
      | (at_next; refine wpList_next_it rfl _ rfl rfl keyN.inj Hit.out ?_ ?_)
      | fail)
    · intro h0
      subst h0
      have hp : dn.Perm (s.up.map (·.1)) := by have := Hperm.out; rwa [List.append_nil] at this
      have hl : (dn.filter (wantN s S)).length ≤ 1000 := Nat.le_trans (List.length_filter_le _ _) (by have := Hlen.out; simp at this; omega)
      have HC := Lib.hid (hsrt _ _ _ wr Hown.out hl)
      have Hp := Lib.hid hp
      clear hp hl
      go_wp2_with fail
      refine HC.out.mono ?_
      rintro e w2 ⟨rfl, l', hp', hs', ho', hb'⟩
      have Hp' := Lib.hid hp'
      have Hs' := Lib.hid hs'
      have Ho' := Lib.hid ho'
      have Hb' := Lib.hid hb'
      clear hp' hs' ho' hb' HC
      go_wp2_with fail
      go_ret
      have hll : l' = leftR s S := left_any Hok.out S (Hp'.out.trans (Hp.out.filter _)) Hs'.out
      have ho2 := Ho'.out
      rw [← Hp'.out.length_eq, hll] at ho2
      refine ⟨_, rfl, ho2, Hbe.out.trans (Hb'.out.below (fun k hk => ?_) Hbe.out.size)⟩
      have := (Hown.out.lt k hk.symm).1
      omega
    · intro x1 x2 xv todo' w1 hpx hmem hit1 hbs1 hs1 hen
      obtain ⟨x, hx1, hx2⟩ : ∃ x : Nm, x.1 = x1 ∧ x.2 = x2 := ⟨(x1, x2), rfl, rfl⟩
      subst hx1 hx2
      have hpx : todo.Perm (x :: todo') := hpx
      have hmem : (x, xv) ∈ s.up := hmem
      have hxo : okN x := hit1.map.oks _ hmem
      have hb1 : Below w.heap.size w w1 := Hbe.out.trans (hbs1.below (fun k hk => by omega) Hbe.out.size)
      have hown1 := rowN_kept Hown.out hbs1 (fun b hb => by omega)
      obtain ⟨W, hW⟩ : ∃ W, w1.alloc (.cells #[str x.1, str x.2] 71) = W := ⟨_, rfl⟩
      have hWB := Blk.new w1 71 #[str x.1, str x.2]
      have hWb : Below w1.heap.size w1 W := by rw [← hW]; exact (Below.refl _ _).alloc (Nat.le_refl _) _
      rw [hW] at hWB
      have hbW := hb1.trans (hWb.mono hb1.size)
      have HC := Lib.hid (want_any x S s h bS bs W (Hk.out.below' hbW) hxo ((hbW.cell hlS).trans HcS.out) ((hbW.cell hls).trans Hcs.out))
      have hxl : w1.heap.size < W.heap.size := hWB.lt
      have x0 : W.cell? ⟨w1.heap.size, 0, none⟩ = some (str x.1) := hWB.cell 0
      have x1 : W.cell? ⟨w1.heap.size, 1, none⟩ = some (str x.2) := hWB.cell 1
      have hen' : (Instr.entry (.pointer (some ⟨w.heap.size, 0, none⟩))).run Try.prog w1 = .ok (.tuple #[.agg #[str x.1, str x.2], str xv]) w1 := hen
      have Hit1 := Lib.hid hit1
      have Hown1 := Lib.hid (rowN_kept hown1 (Beside.of_below (N := fun _ => False) hWb) (fun _ _ h => h))
      have HbW := Lib.hid hbW
      have HWb := Lib.hid hWb
      have Hpx := Lib.hid hpx
      have hw1 : w.heap.size + 1 ≤ w1.heap.size := by omega
      clear hxo hb1 hown1 hWB hWb hbW hmem hit1 hbs1 hs1 hen hpx Hown Hbe Hit Hk Hok HcS Hcs hsrt
      unfold ekN
      go_wp2_with fail
      refine HC.out.mono ?_
      rintro e w2 ⟨rfl, hb2⟩
      have y0 : w2.cell? ⟨w1.heap.size, 0, none⟩ = some (str x.1) := (hb2.cell hxl).trans x0
      have y1 : w2.cell? ⟨w1.heap.size, 1, none⟩ = some (str x.2) := (hb2.cell hxl).trans x1
      have hw2 : w1.heap.size < w2.heap.size := Nat.lt_of_lt_of_le hxl hb2.size
      have Hb12 := Lib.hid (HWb.out.trans (hb2.mono HWb.out.size))
      have hperm' : (dn ++ [x] ++ todo').Perm (s.up.map (·.1)) := by
        rw [List.append_assoc]
        exact (Hpx.out.symm.append_left dn).trans Hperm.out
      have Hperm' := Lib.hid hperm'
      have hown2 := rowN_kept Hown1.out (Beside.of_below (N := fun _ => False) hb2) (fun _ _ h => h)
      have hbe2 : Below w.heap.size w w2 := HbW.out.trans (hb2.mono HbW.out.size)
      have hln : (dn.filter (wantN s S)).length + 1 ≤ 1048576 := by
        have := List.length_filter_le (wantN s S) dn
        have := Hlen.out
        omega
      have Hgk' : Hid (todo'.length < gk) := Lib.hid (by rw [Hgk.out, Hpx.out.length_eq]; simp)
      clear hperm' HC hb2 x0 x1
      cases hwx : wantN s S x with
      | true =>
        have hfl : (dn ++ [x]).filter (wantN s S) = dn.filter (wantN s S) ++ [x] := by rw [List.filter_append]; simp [hwx]
        obtain ⟨v', wf, hrun, ho', hg'⟩ := run_app_name w2 (w.heap.size + 1) _ _ _ x hown2 hln (by omega)
        rw [Hob.out] at hg'
        have Hrun := Lib.hid hrun
        have hbs : Beside (fun i => ob = some i) w1 wf := by
          have h1 : Beside (fun i => ob = some i) w1 (w2.alloc (.cells #[str x.1, str x.2] 71)) := (Beside.of_below Hb12.out).alloc _
          exact h1.trans (Beside.of_grown hg')
        have hN : ∀ b, ob = some b → w.heap.size + 1 ≤ b := fun b hb => (Hown1.out.lt b (Hob.out.trans hb)).1
        have Hit' := Lib.hid (Hit1.out.beside hbs (fun h => by have := hN _ h; omega) (fun h => by have := hN _ h; omega))
        have Hbe' : Hid (Below w.heap.size w wf) := Lib.hid (hbe2.trans (by
          have h1 : Beside (fun i => ob = some i) w2 wf := ((Beside.refl _ w2).alloc _).trans (Beside.of_grown hg')
          exact h1.below (fun k hk => by have := hN k hk; omega) hbe2.size))
        have Ho' := Lib.hid ho'
        have hsf : w.heap.size + 1 ≤ wf.heap.size := by have := hg'.size; simp at this; omega
        have Hfl := Lib.hid hfl
        clear hrun hbs hN ho' hg' hown2 hbe2 hfl Hown1 Hit1 HbW HWb Hb12
        go_wp2_with (first | (at_builtin; refine rw_app rfl _ _ _ rfl _ _ (by rfl) (by rfl) Hrun.out ?_; clear Hrun) | fail)
        go_roundg todo'.length
        case measure => exact Hgk'.out
        case rel => exact ⟨dn ++ [x], todo', _, rfl, Hit'.out, Hperm'.out, rfl, by rw [Hfl.out]; simpa using Ho'.out, Hbe'.out, hsf⟩
      | false =>
        have hfl : (dn ++ [x]).filter (wantN s S) = dn.filter (wantN s S) := by rw [List.filter_append]; simp [hwx]
        have Hit' := Lib.hid (Hit1.out.beside (Beside.of_below (N := fun _ => False) Hb12.out) (fun h => h) (fun h => h))
        have Hown2 := Lib.hid hown2
        have Hbe2 := Lib.hid hbe2
        have Hfl := Lib.hid hfl
        have hsf : w.heap.size + 1 ≤ w2.heap.size := by omega
        clear hown2 hbe2 hfl
        go_wp2_with fail
        go_roundg todo'.length
        case measure => exact Hgk'.out
        case rel => exact ⟨dn ++ [x], todo', _, rfl, Hit'.out, Hperm'.out, rfl, by rw [Hfl.out]; exact Hown2.out, Hbe2.out, hsf⟩
set_option maxHeartbeats 1000000 in
/-- left: the keys of the Sort that have not been given away, in order. -/
theorem left_any' (hsrt : SrtN) (S : List UInt8) (s : Ks) (h : Nat) (w : World) (hk : KsIn w h s) (hup : s.up.length ≤ 1000) :
    Calls Try.prog 22 #[.pointer (some ⟨h + 4, 0, none⟩), str S] w fun e w' =>
      ∃ v, e = .returned v ∧ w'.ownsRow w.heap.size 71 2 v (leftR s S).length (pcN (leftR s S)) ∧ Below w.heap.size w w' := by
  have hB1 := (Blk.new w 41 #[.pointer (some ⟨h + 4, 0, none⟩)]).alloc (.cells #[str S] 9)
  have hB2 := Blk.new (w.alloc (.cells #[.pointer (some ⟨h + 4, 0, none⟩)] 41)) 9 #[str S]
  have hWb : Below w.heap.size w ((w.alloc (.cells #[.pointer (some ⟨h + 4, 0, none⟩)] 41)).alloc (.cells #[str S] 9)) := ((Below.refl _ _).alloc (Nat.le_refl _) _).alloc (by simp) _
  rw [show (w.alloc (.cells #[.pointer (some ⟨h + 4, 0, none⟩)] 41)).heap.size = w.heap.size + 1 by simp] at hB2
  have x0 := hB1.cell 0
  have x1 := hB2.cell 0
  have HC := Lib.hid (selected_any hsrt S s h (w.heap.size + 1) w.heap.size _ (hk.below' hWb) hup x1 x0)
  have HWb := Lib.hid hWb
  clear hk hsrt hup hWb hB1 hB2 x0 x1
  go_enter Try.func22, Try.ntmps22
  go_wp2_with fail
  refine HC.out.mono ?_
  rintro e w2 ⟨v, rfl, ho, hb⟩
  have Ho := Lib.hid ho
  have Hb := Lib.hid hb
  clear ho hb HC
  go_wp2_with fail
  go_ret
  exact ⟨v, rfl, rw_le Ho.out (by have := HWb.out.size; omega), HWb.out.trans (Hb.out.mono HWb.out.size)⟩
end Go.Proofs.Ytaamoilkphjhgab
