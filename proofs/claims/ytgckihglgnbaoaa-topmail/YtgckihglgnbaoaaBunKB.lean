/- Joined texts: KyRow, KyCl, KySel. -/
import Derived.Test.YtgckihglgnbaoaaKyMem
import Derived.Test.YtgckihglgnbaoaaRwApp
import Derived.Test.YtgckihglgnbaoaaBunRA
import Derived.Test.YtgckihglgnbaoaaShelfY
import Derived.Test.YtgckihglgnbaoaaBunA
import Derived.BigQuiet
import Derived.Test.YtgckihglgnbaoaaKyIt
/- One-time keys: rows of names. -/
namespace Go.Proofs.Ytgckihglgnbaoaa
set_option linter.unusedVariables false
set_option linter.unusedSimpArgs false
open Go.RowKit
def rwN (n : KNm) : Rw := ⟨n.1, n.2⟩
def pcN (l : List KNm) : List Value := pcR (l.map rwN)
theorem pcN_len (l : List KNm) : (pcN l).length = l.length * 2 := by unfold pcN; rw [pcR_len, List.length_map]
theorem pcN_app (l m : List KNm) : pcN (l ++ m) = pcN l ++ pcN m := by unfold pcN; rw [List.map_append, pcR_app]
theorem pcN_one (l : List KNm) : ∀ u ∈ pcN l, u.oneCell' = true := pcR_one _
theorem info_name : (Try.prog.info? 96).map (fun i => (i.zero, i.size, i.bytes)) = some (some (.agg #[.string ⟨#[]⟩, .string ⟨#[]⟩]), 2, 32) := by kernel_rfl
/-- One name more behind a row of the call's own: its run. -/
theorem run_app_name (W : World) (base n : Nat) (v : Value) (l : List KNm) (x : KNm) (hown : W.ownsRow base 96 2 v n (pcN l)) (hn : n + 1 ≤ 1048576) (hb : base ≤ W.heap.size) :
    ∃ v' wf, (Builtin.append_ #[83, 83] 83 #[v, .slice (some ⟨W.heap.size, 0, none⟩) 1 1]).run Try.prog (W.alloc (.cells #[str x.1, str x.2] 96)) = .ok v' wf ∧
      wf.ownsRow base 96 2 v' (n + 1) (pcN (l ++ [x])) ∧ (W.alloc (.cells #[str x.1, str x.2] 96)).grownBy wf v.ownBlock := by
  obtain ⟨i0, hi0, hz0, hzs, hzb⟩ := info_parts info_name
  have hB := Blk.new W 96 #[str x.1, str x.2]
  have hh : Holds (W.alloc (.cells #[str x.1, str x.2] 96)) (W.heap.size + 1) 2 (some ⟨W.heap.size, 0, none⟩) 1 (rc (rwN x)) := by
    refine ⟨rfl, fun _ => ⟨W.heap.size, 0, rfl, by omega, fun j u hu => ?_⟩⟩
    rw [Nat.zero_add, hB.cell j]
    simpa [rc, rwN] using hu
  obtain ⟨v', wf, h1, h2, h3, _⟩ := run_app_all (P := Try.prog) (W.alloc (.cells #[str x.1, str x.2] 96)) 83 83 base 96 i0 _ 2 32 Try.underlying83 hi0 hz0 hzs hzb rfl (by decide) v n (pcN l) (hown.alloc _) (W.heap.size + 1) (some ⟨W.heap.size, 0, none⟩) 1 1 (rc (rwN x)) (fun h => by cases h) hh (rc_one (rwN x)) hn (by decide) (by simp; omega)
  exact ⟨v', wf, h1, by rw [pcN_app]; simpa [pcN, pcR] using h2, h3⟩
end Go.Proofs.Ytgckihglgnbaoaa

/- One-time keys: the closures: is a key wanted, and how two compare. -/
namespace Go.Proofs.Ytgckihglgnbaoaa
set_option linter.unusedVariables false
set_option linter.unusedSimpArgs false
open Go.RowKit

theorem ky_zeroB (w : World) : (zeroValue 4).run Try.prog w = .ok (.bool false) w := by kernel_rfl
theorem ky_zeroS (w : World) : (zeroValue 9).run Try.prog w = .ok (str []) w := by kernel_rfl
theorem ky_zeroK (w : World) : (zeroValue 79).run Try.prog w = .ok (evK kv0) w := by kernel_rfl
/-- The look-up among what was given away. -/
theorem look_gv {w : World} {h : Nat} {s : Ks} (k : KsIn w h s) {n : KNm} (hn : okN n) : (Instr.lookup 73 (.map (some (h + 1))) (ekN n) false).run Try.prog w = .ok (.bool (isGv s n)) w := by
  rw [k.gv.look keyN Try.underlying73 (ky_zeroB w) hn false]
  unfold isGv lookV
  cases getA s.gv n <;> rfl

set_option maxHeartbeats 2000000 in
/-- The closure of left: is the name one of the Sort that has not been given away. -/
theorem want_any (n : KNm) (S : List UInt8) (s : Ks) (h bS bs : Nat) (w : World) (hk : KsIn w h s) (hn : okN n) (cS : w.cell? ⟨bS, 0, none⟩ = some (str S)) (cs : w.cell? ⟨bs, 0, none⟩ = some (.pointer (some ⟨h + 4, 0, none⟩))) :
    Calls Try.prog 39 #[.agg #[str n.1, str n.2], .pointer (some ⟨bS, 0, none⟩), .pointer (some ⟨bs, 0, none⟩)] w fun e w' => e = .returned (.bool (wantN s S n)) ∧ Below w.heap.size w w' := by
  have hlS : bS < w.heap.size := by
    rcases Nat.lt_or_ge bS w.heap.size with h | h
    · exact h
    · unfold World.cell? at cS; rw [Array.getElem?_eq_none h] at cS; simp at cS
  have hls : bs < w.heap.size := by
    rcases Nat.lt_or_ge bs w.heap.size with h | h
    · exact h
    · unfold World.cell? at cs; rw [Array.getElem?_eq_none h] at cs; simp at cs
  obtain ⟨W, hW⟩ : ∃ W, w.alloc (.cells #[str n.1, str n.2] 96) = W := ⟨_, rfl⟩
  have hWB := Blk.new w 96 #[str n.1, str n.2]
  have hWb : Below w.heap.size w W := by rw [← hW]; exact (Below.refl _ _).alloc (Nat.le_refl _) _
  rw [hW] at hWB
  have hkW := hk.below' hWb
  have x0 : W.cell? ⟨w.heap.size, 0, none⟩ = some (str n.1) := hWB.cell 0
  have x1 : W.cell? ⟨w.heap.size, 1, none⟩ = some (str n.2) := hWB.cell 1
  have y0 : W.cell? ⟨bS, 0, none⟩ = some (str S) := (hWb.cell hlS).trans cS
  have y1 : W.cell? ⟨bs, 0, none⟩ = some (.pointer (some ⟨h + 4, 0, none⟩)) := (hWb.cell hls).trans cs
  have z1 : W.cell? ⟨h + 4, 1, none⟩ = some (.map (some (h + 1))) := hkW.box.cell 1
  have HL : ∀ q, (Instr.lookup 73 (.map (some (h + 1))) (.agg #[str n.1, str n.2]) false).run Try.prog (W.drewN q) = .ok (.bool (isGv s n)) (W.drewN q) := fun q => look_gv (hkW.below (B := W.heap.size) (below_drewN (Below.refl _ _) q) hkW.lt) hn
  have HL0 : (Instr.lookup 73 (.map (some (h + 1))) (.agg #[str n.1, str n.2]) false).run Try.prog W = .ok (.bool (isGv s n)) W := look_gv hkW hn
  have HE := Lib.hid (show wantN s S n = (n.1 == S && !isGv s n) from rfl)
  have HWb := Lib.hid hWb
  clear hk hn cS cs hWB hWb hkW
  generalize isGv s n = gvn at *
  obtain ⟨n1, n2⟩ := n
  simp only at *
  generalize wantN s S (n1, n2) = res at *
  cases hb : (n1 == S)
  all_goals
    go_enter Try.func39, Try.ntmps39
    go_wp2_with fail
    go_quiet (fail)
    go_wp2_with fail
    go_ret
    rw [HE.out, hb]
    exact ⟨by simp, below_drewN HWb.out _⟩
/-- How two names compare. -/
def cmpN (a b : KNm) : Int := Lib.compareBytes a.2 b.2
set_option maxHeartbeats 2000000 in
theorem cmp_any (a b : KNm) (w : World) :
    Calls Try.prog 46 #[.agg #[str a.1, str a.2], .agg #[str b.1, str b.2]] w fun e w' => e = .returned (.int .i64 (cmpN a b)) ∧ ∃ o1 o2, w' = (w.alloc o1).alloc o2 := by
  have HC := Lib.hid (fun W => Try.strings_Compare ⟨a.2.toArray⟩ ⟨b.2.toArray⟩ W)
  have HE := Lib.hid (show cmpN a b = Lib.compareBytes (⟨a.2.toArray⟩ : ByteArray).data.toList (⟨b.2.toArray⟩ : ByteArray).data.toList by unfold cmpN; simp)
  rw [← HE.out] at HC
  obtain ⟨a1, a2⟩ := a
  obtain ⟨b1, b2⟩ := b
  simp only at *
  generalize cmpN (a1, a2) (b1, b2) = r at *
  clear HE
  go_enter Try.func46, Try.ntmps46
  go_wp2_with fail
  refine (HC.out _).mono ?_
  rintro e w1 ⟨rfl, rfl⟩
  go_wp2_with fail
  go_ret
  exact ⟨rfl, _, _, rfl⟩
end Go.Proofs.Ytgckihglgnbaoaa

/- One-time keys: selected and left: the keys of a Sort that have not been given away. -/
namespace Go.Proofs.Ytgckihglgnbaoaa
set_option linter.unusedVariables false
set_option linter.unusedSimpArgs false
open Go.RowKit
/-- What slices.SortFunc does for selected. -/
def SrtN : Prop := ∀ (v : Value) (l : List KNm) (base : Nat) (w : World), w.ownsRow base 96 2 v l.length (pcN l) → l.length ≤ 1000 →
  Calls Try.prog 45 #[v, .func (.func 46) #[] #[]] w fun e w' => e = .returned (.tuple #[]) ∧
    ∃ l', l'.Perm l ∧ (l'.Pairwise fun a b => Op.bytesLess b.2 a.2 = false) ∧ w'.ownsRow base 96 2 v l.length (pcN l') ∧ Beside (fun i => some i = v.ownBlock) w w'
theorem Beside.of_grown {w w' : World} {row : Option Nat} (h : w.grownBy w' row) : Beside (fun i => row = some i) w w' :=
  ⟨h.os, h.tape, h.output, h.size, fun i hi hn => h.block i hi (fun e => hn e.symm)⟩
def SelR (w : World) (h : Nat) (s : Ks) (S : List UInt8) (gk : Nat) (v5 : Value) (wr : World) : Prop :=
  ∃ dn todo ob, v5.ownBlock = ob ∧ IterIs wr w.heap.size h ekN str okN s.up todo ∧ (dn ++ todo).Perm (s.up.map (·.1)) ∧ gk = todo.length ∧ wr.ownsRow (w.heap.size + 1) 96 2 v5 (dn.filter (wantN s S)).length (pcN (dn.filter (wantN s S))) ∧ Below w.heap.size w wr ∧ w.heap.size + 1 ≤ wr.heap.size
theorem cell_lt {w : World} {p : Addr} {v : Value} (h : w.cell? p = some v) : p.block < w.heap.size := by
  rcases Nat.lt_or_ge p.block w.heap.size with h' | h'
  · exact h'
  · unfold World.cell? at h; rw [Array.getElem?_eq_none h'] at h; simp at h
theorem rowN_kept {w w' : World} {base n : Nat} {v : Value} {xs : List Value} {N : Nat → Prop} (h : w.ownsRow base 96 2 v n xs) (hb : Beside N w w') (hN : ∀ b, base ≤ b → ¬ N b) : w'.ownsRow base 96 2 v n xs := by
  refine ⟨h.1, ?_⟩
  rcases h.2 with h0 | ⟨g, c, cur, h1, h2, h3, h4⟩
  · exact .inl h0
  · exact .inr ⟨g, c, cur, h1, h2, (hb.block g (Array.getElem?_eq_some_iff.1 h3).1 (hN g h2)).trans h3, h4⟩
set_option maxHeartbeats 4000000 in
set_option maxRecDepth 100000 in
theorem selected_any (hsrt : SrtN) (S : List UInt8) (s : Ks) (h bS bs : Nat) (w : World) (hk : KsIn w h s) (hup : s.up.length ≤ 1000) (cS : w.cell? ⟨bS, 0, none⟩ = some (str S)) (cs : w.cell? ⟨bs, 0, none⟩ = some (.pointer (some ⟨h + 4, 0, none⟩))) :
    Calls Try.prog 38 #[.pointer (some ⟨h + 4, 0, none⟩), .func (.func 39) #[] #[.pointer (some ⟨bS, 0, none⟩), .pointer (some ⟨bs, 0, none⟩)]] w fun e w' =>
      ∃ v, e = .returned v ∧ w'.ownsRow (w.heap.size + 1) 96 2 v (leftR s S).length (pcN (leftR s S)) ∧ Below w.heap.size w w' := by
  have c0 : w.cell? ⟨h + 4, 0, none⟩ = some (.map (some h)) := hk.box.cell 0
  have hhl := hk.lt
  have hlS := cell_lt cS
  have hls := cell_lt cs
  have hok := hk.ok
  have Hk := Lib.hid hk
  have HcS := Lib.hid cS
  have Hcs := Lib.hid cs
  have Hok := Lib.hid hok
  clear hk cS cs hok
  go_enter Try.func38, Try.ntmps38
  go_wp2_with (first
    | (at_range; refine wpList_range_it rfl _ 72 rfl Try.underlying72 rfl Hk.out.up ?_; intro w0 hit0 hb0 hs0)
    | fail)
  go_loopg [5] s.up.length (SelR w h s S)
  case atStart => exact ⟨[], s.up.map (·.1), _, rfl, hit0, List.Perm.refl _, by simp, World.ownsRow_nil _ _ _ _, hb0, by omega⟩
  case round =>
    obtain ⟨dn, todo, ob, hob, hit, hperm, hgk, hown, hbe, hsz⟩ := hrel
    have Hperm := Lib.hid hperm
    have Hgk := Lib.hid hgk
    have Hown := Lib.hid hown
    have Hbe := Lib.hid hbe
    have Hit := Lib.hid hit
    have Hob := Lib.hid hob
    clear hperm hgk hown hbe hit hob
    have Hlen : Hid (dn.length + todo.length ≤ 1000) := Lib.hid (by have := Hperm.out.length_eq; simp at this; omega)
    go_wp2_with (first
      | (at_next; refine wpList_next_it rfl _ rfl rfl keyN.inj Hit.out ?_ ?_)
      | fail)
    · intro h0
      subst h0
      have hp : dn.Perm (s.up.map (·.1)) := by have := Hperm.out; rwa [List.append_nil] at this
      have hl : (dn.filter (wantN s S)).length ≤ 1000 := Nat.le_trans (List.length_filter_le _ _) (by have := Hlen.out; simp at this; omega)
      have HC := Lib.hid (hsrt _ _ _ wr Hown.out hl)
      have Hp := Lib.hid hp
      clear hp hl
      go_wp2_with fail
      refine HC.out.mono ?_
      rintro e w2 ⟨rfl, l', hp', hs', ho', hb'⟩
      have Hp' := Lib.hid hp'
      have Hs' := Lib.hid hs'
      have Ho' := Lib.hid ho'
      have Hb' := Lib.hid hb'
      clear hp' hs' ho' hb' HC
      go_wp2_with fail
      go_ret
      have hll : l' = leftR s S := left_any Hok.out S (Hp'.out.trans (Hp.out.filter _)) Hs'.out
      have ho2 := Ho'.out
      rw [← Hp'.out.length_eq, hll] at ho2
      refine ⟨_, rfl, ho2, Hbe.out.trans (Hb'.out.below (fun k hk => ?_) Hbe.out.size)⟩
      have := (Hown.out.lt k hk.symm).1
      omega
    · intro x1 x2 xv todo' w1 hpx hmem hit1 hbs1 hs1 hen
      obtain ⟨x, hx1, hx2⟩ : ∃ x : KNm, x.1 = x1 ∧ x.2 = x2 := ⟨(x1, x2), rfl, rfl⟩
      subst hx1 hx2
      have hpx : todo.Perm (x :: todo') := hpx
      have hmem : (x, xv) ∈ s.up := hmem
      have hxo : okN x := hit1.map.oks _ hmem
      have hb1 : Below w.heap.size w w1 := Hbe.out.trans (hbs1.below (fun k hk => by omega) Hbe.out.size)
      have hown1 := rowN_kept Hown.out hbs1 (fun b hb => by omega)
      obtain ⟨W, hW⟩ : ∃ W, w1.alloc (.cells #[str x.1, str x.2] 96) = W := ⟨_, rfl⟩
      have hWB := Blk.new w1 96 #[str x.1, str x.2]
      have hWb : Below w1.heap.size w1 W := by rw [← hW]; exact (Below.refl _ _).alloc (Nat.le_refl _) _
      rw [hW] at hWB
      have hbW := hb1.trans (hWb.mono hb1.size)
      have HC := Lib.hid (want_any x S s h bS bs W (Hk.out.below' hbW) hxo ((hbW.cell hlS).trans HcS.out) ((hbW.cell hls).trans Hcs.out))
      have hxl : w1.heap.size < W.heap.size := hWB.lt
      have x0 : W.cell? ⟨w1.heap.size, 0, none⟩ = some (str x.1) := hWB.cell 0
      have x1 : W.cell? ⟨w1.heap.size, 1, none⟩ = some (str x.2) := hWB.cell 1
      have hen' : (Instr.entry (.pointer (some ⟨w.heap.size, 0, none⟩))).run Try.prog w1 = .ok (.tuple #[.agg #[str x.1, str x.2], str xv]) w1 := hen
      have Hit1 := Lib.hid hit1
      have Hown1 := Lib.hid (rowN_kept hown1 (Beside.of_below (N := fun _ => False) hWb) (fun _ _ h => h))
      have HbW := Lib.hid hbW
      have HWb := Lib.hid hWb
      have Hpx := Lib.hid hpx
      have hw1 : w.heap.size + 1 ≤ w1.heap.size := by omega
      clear hxo hb1 hown1 hWB hWb hbW hmem hit1 hbs1 hs1 hen hpx Hown Hbe Hit Hk Hok HcS Hcs hsrt
      unfold ekN
      go_wp2_with fail
      refine HC.out.mono ?_
      rintro e w2 ⟨rfl, hb2⟩
      have y0 : w2.cell? ⟨w1.heap.size, 0, none⟩ = some (str x.1) := (hb2.cell hxl).trans x0
      have y1 : w2.cell? ⟨w1.heap.size, 1, none⟩ = some (str x.2) := (hb2.cell hxl).trans x1
      have hw2 : w1.heap.size < w2.heap.size := Nat.lt_of_lt_of_le hxl hb2.size
      have Hb12 := Lib.hid (HWb.out.trans (hb2.mono HWb.out.size))
      have hperm' : (dn ++ [x] ++ todo').Perm (s.up.map (·.1)) := by
        rw [List.append_assoc]
        exact (Hpx.out.symm.append_left dn).trans Hperm.out
      have Hperm' := Lib.hid hperm'
      have hown2 := rowN_kept Hown1.out (Beside.of_below (N := fun _ => False) hb2) (fun _ _ h => h)
      have hbe2 : Below w.heap.size w w2 := HbW.out.trans (hb2.mono HbW.out.size)
      have hln : (dn.filter (wantN s S)).length + 1 ≤ 1048576 := by
        have := List.length_filter_le (wantN s S) dn
        have := Hlen.out
        omega
      have Hgk' : Hid (todo'.length < gk) := Lib.hid (by rw [Hgk.out, Hpx.out.length_eq]; simp)
      clear hperm' HC hb2 x0 x1
      cases hwx : wantN s S x with
      | true =>
        have hfl : (dn ++ [x]).filter (wantN s S) = dn.filter (wantN s S) ++ [x] := by rw [List.filter_append]; simp [hwx]
        obtain ⟨v', wf, hrun, ho', hg'⟩ := run_app_name w2 (w.heap.size + 1) _ _ _ x hown2 hln (by omega)
        rw [Hob.out] at hg'
        have Hrun := Lib.hid hrun
        have hbs : Beside (fun i => ob = some i) w1 wf := by
          have h1 : Beside (fun i => ob = some i) w1 (w2.alloc (.cells #[str x.1, str x.2] 96)) := (Beside.of_below Hb12.out).alloc _
          exact h1.trans (Beside.of_grown hg')
        have hN : ∀ b, ob = some b → w.heap.size + 1 ≤ b := fun b hb => (Hown1.out.lt b (Hob.out.trans hb)).1
        have Hit' := Lib.hid (Hit1.out.beside hbs (fun h => by have := hN _ h; omega) (fun h => by have := hN _ h; omega))
        have Hbe' : Hid (Below w.heap.size w wf) := Lib.hid (hbe2.trans (by
          have h1 : Beside (fun i => ob = some i) w2 wf := ((Beside.refl _ w2).alloc _).trans (Beside.of_grown hg')
          exact h1.below (fun k hk => by have := hN k hk; omega) hbe2.size))
        have Ho' := Lib.hid ho'
        have hsf : w.heap.size + 1 ≤ wf.heap.size := by have := hg'.size; simp at this; omega
        have Hfl := Lib.hid hfl
        clear hrun hbs hN ho' hg' hown2 hbe2 hfl Hown1 Hit1 HbW HWb Hb12
        go_wp2_with (first | (at_builtin; refine rw_app rfl _ _ _ rfl _ _ (by rfl) (by rfl) Hrun.out ?_; clear Hrun) | fail)
        go_roundg todo'.length
        case measure => exact Hgk'.out
        case rel => exact ⟨dn ++ [x], todo', _, rfl, Hit'.out, Hperm'.out, rfl, by rw [Hfl.out]; simpa using Ho'.out, Hbe'.out, hsf⟩
      | false =>
        have hfl : (dn ++ [x]).filter (wantN s S) = dn.filter (wantN s S) := by rw [List.filter_append]; simp [hwx]
        have Hit' := Lib.hid (Hit1.out.beside (Beside.of_below (N := fun _ => False) Hb12.out) (fun h => h) (fun h => h))
        have Hown2 := Lib.hid hown2
        have Hbe2 := Lib.hid hbe2
        have Hfl := Lib.hid hfl
        have hsf : w.heap.size + 1 ≤ w2.heap.size := by omega
        clear hown2 hbe2 hfl
        go_wp2_with fail
        go_roundg todo'.length
        case measure => exact Hgk'.out
        case rel => exact ⟨dn ++ [x], todo', _, rfl, Hit'.out, Hperm'.out, rfl, by rw [Hfl.out]; exact Hown2.out, Hbe2.out, hsf⟩
set_option maxHeartbeats 1000000 in
/-- left: the keys of the Sort that have not been given away, in order. -/
theorem left_any' (hsrt : SrtN) (S : List UInt8) (s : Ks) (h : Nat) (w : World) (hk : KsIn w h s) (hup : s.up.length ≤ 1000) :
    Calls Try.prog 28 #[.pointer (some ⟨h + 4, 0, none⟩), str S] w fun e w' =>
      ∃ v, e = .returned v ∧ w'.ownsRow w.heap.size 96 2 v (leftR s S).length (pcN (leftR s S)) ∧ Below w.heap.size w w' := by
  have hB1 := (Blk.new w 56 #[.pointer (some ⟨h + 4, 0, none⟩)]).alloc (.cells #[str S] 9)
  have hB2 := Blk.new (w.alloc (.cells #[.pointer (some ⟨h + 4, 0, none⟩)] 56)) 9 #[str S]
  have hWb : Below w.heap.size w ((w.alloc (.cells #[.pointer (some ⟨h + 4, 0, none⟩)] 56)).alloc (.cells #[str S] 9)) := ((Below.refl _ _).alloc (Nat.le_refl _) _).alloc (by simp) _
  rw [show (w.alloc (.cells #[.pointer (some ⟨h + 4, 0, none⟩)] 56)).heap.size = w.heap.size + 1 by simp] at hB2
  have x0 := hB1.cell 0
  have x1 := hB2.cell 0
  have HC := Lib.hid (selected_any hsrt S s h (w.heap.size + 1) w.heap.size _ (hk.below' hWb) hup x1 x0)
  have HWb := Lib.hid hWb
  clear hk hsrt hup hWb hB1 hB2 x0 x1
  go_enter Try.func28, Try.ntmps28
  go_wp2_with fail
  refine HC.out.mono ?_
  rintro e w2 ⟨v, rfl, ho, hb⟩
  have Ho := Lib.hid ho
  have Hb := Lib.hid hb
  clear ho hb HC
  go_wp2_with fail
  go_ret
  exact ⟨v, rfl, rw_le Ho.out (by have := HWb.out.size; omega), HWb.out.trans (Hb.out.mono HWb.out.size)⟩
end Go.Proofs.Ytgckihglgnbaoaa
