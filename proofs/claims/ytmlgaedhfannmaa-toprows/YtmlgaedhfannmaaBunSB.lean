/- Joined texts: StDrv, StRun, StOps. -/
import Derived.Test.YtmlgaedhfannmaaBunSG
import Derived.Test.YtmlgaedhfannmaaBunDB
import Derived.Test.YtmlgaedhfannmaaBunSA
import Derived.Test.YtmlgaedhfannmaaRwSet
/- The store: the drive's run; the store's two cells. -/
namespace Go.Proofs.Ytmlgaedhfannmaa
set_option linter.unusedVariables false
set_option linter.unusedSimpArgs false
open Go.RowKit
theorem info_mv : (Try.prog.info? 158).map (fun i => (i.zero, i.size, i.bytes)) = some (some (.agg #[.int .i64 0, .slice none 0 0, .int .i64 0]), 3, 40) := by kernel_rfl
/-- A slice of bytes in blocks of S. -/
def BIn (w : World) (S : Nat → Prop) (A : Option Addr) (n c : Nat) (l : List UInt8) : Prop := l.length = n ∧ n ≤ c ∧ (A = none → c = 0) ∧ HoldsS w S 1 A n (l.map bv)
theorem BIn.mono {w : World} {S S' : Nat → Prop} {A : Option Addr} {n c : Nat} {l : List UInt8} (h : BIn w S A n c l) (hs : ∀ b, b < w.heap.size → S b → S' b) : BIn w S' A n c l := by
  obtain ⟨h1, h2, h3, h4, h5⟩ := h
  refine ⟨h1, h2, h3, h4, fun hn => ?_⟩
  obtain ⟨b, off, e, hb, hc⟩ := h5 hn
  have hl : 0 < (l.map bv).length := by rw [h4]; omega
  exact ⟨b, off, e, hs b (cell_lt' (hc 0 _ (List.getElem?_eq_getElem hl))) hb, hc⟩
theorem BIn.kept {w w' : World} {S : Nat → Prop} {A : Option Addr} {n c : Nat} {l : List UInt8} (h : BIn w S A n c l) (hk : ∀ p : Addr, S p.block → p.block < w.heap.size → w'.cell? p = w.cell? p) : BIn w' S A n c l := by
  obtain ⟨h1, h2, h3, h4, h5⟩ := h
  refine ⟨h1, h2, h3, h4, fun hn => ?_⟩
  obtain ⟨b, off, e, hb, hc⟩ := h5 hn
  exact ⟨b, off, e, hb, fun j u hu => (hk _ hb (cell_lt' (hc j u hu))).trans (hc j u hu)⟩
theorem BIn.below {w w' : World} {S : Nat → Prop} {A : Option Addr} {n c : Nat} {l : List UInt8} (h : BIn w S A n c l) (hb : Below w.heap.size w w') : BIn w' S A n c l := h.kept fun p _ hp => hb.cell hp
theorem BIn.set_ {w : World} {S : Nat → Prop} {A : Option Addr} {n c g i : Nat} {l : List UInt8} (h : BIn w S A n c l) (hg : ¬ S g) (v : Value) : BIn (w.setCell ⟨g, i, none⟩ v) S A n c l :=
  h.kept fun p hp _ => World.cell?_of_block (Below.heap_setCell _ _ _ _ (fun e => hg (by rw [← show p.block = g from e]; exact hp)))
theorem BIn.all {w : World} {S : Nat → Prop} {A : Option Addr} {n c : Nat} {l : List UInt8} (h : BIn w S A n c l) : Holds w w.heap.size 1 A n (l.map bv) := by
  have := h.mono (S' := fun b => b < w.heap.size) fun b hb _ => hb
  exact this.2.2.2
theorem BIn.row {w : World} {base e : Nat} {v : Value} {n : Nat} {l : List UInt8} (h : w.ownsRow base e 1 v n (l.map bv)) : ∃ A c, v = .slice A n c ∧ BIn w (fun b => base ≤ b) A n c l := by
  obtain ⟨A, c, rfl, hA⟩ := own_form h
  have hl : l.length = n := by have := h.1; simpa using this
  refine ⟨A, c, rfl, hl, ?_, fun hA' => (hA hA').2, h.1, fun hn => ?_⟩
  · rcases h.2 with ⟨hv, h0⟩ | ⟨g, c', cur, hv, hb, hg, hnc, hrest⟩
    · injection hv; omega
    · injection hv; omega
  · obtain ⟨b, off, rfl, hb, hc⟩ := (Holds.own h).2 hn
    exact ⟨b, off, rfl, (h.lt b rfl).1, hc⟩
/-- The store: its file and its table, in box g. -/
def StIn (N : Nat → Prop) (w : World) (g : Nat) (s : List Rw × List UInt8) : Prop :=
  ∃ Af cf At ct, Blk w g 94 #[.slice Af s.2.length cf, .slice At s.1.length ct] ∧ BIn w (fun b => b ≠ g ∧ ¬ N b) Af s.2.length cf s.2 ∧ RInS w (fun b => b ≠ g ∧ ¬ N b) At s.1.length ct s.1
theorem StIn.below {N : Nat → Prop} {w w' : World} {g : Nat} {s : List Rw × List UInt8} (h : StIn N w g s) (hb : Below w.heap.size w w') : StIn N w' g s := by
  obtain ⟨Af, cf, At, ct, h1, h2, h3⟩ := h
  exact ⟨Af, cf, At, ct, h1.below hb h1.lt, h2.below hb, h3.below hb⟩
theorem nUp {N : Nat → Prop} {w w' : World} (hN : ∀ b, N b → b < w.heap.size) (h : w.heap.size ≤ w'.heap.size) : ∀ b, N b → b < w'.heap.size := fun b hb => Nat.lt_of_lt_of_le (hN b hb) h
theorem StIn.lt {N : Nat → Prop} {w : World} {g : Nat} {s : List Rw × List UInt8} (h : StIn N w g s) : g < w.heap.size := by
  obtain ⟨Af, cf, At, ct, h1, _⟩ := h
  exact h1.lt
/-- The first code that is no OK. -/
def firstE : List Int → Int
  | [] => 0
  | c :: l => if c = 0 then firstE l else c
theorem firstE_take : ∀ {l : List Int} {k : Nat} (hk : k < l.length), (∀ c ∈ l.take k, c = 0) → l[k] ≠ 0 → firstE l = l[k]
  | c :: l, 0, hk, _, h => by
    unfold firstE
    rw [if_neg (by simpa using h)]; rfl
  | c :: l, k + 1, hk, h0, h => by
    unfold firstE
    rw [if_pos (h0 c (by simp))]
    have := firstE_take (l := l) (k := k) (by simpa using hk) (fun x hx => h0 x (by simp [hx])) (by simpa using h)
    simpa using this
theorem firstE_all : ∀ {l : List Int}, (∀ c ∈ l, c = 0) → firstE l = 0
  | [], _ => rfl
  | c :: l, h => by
    unfold firstE
    rw [if_pos (h c (by simp)), firstE_all fun x hx => h x (by simp [hx])]
theorem MsIn.app {w : World} {S : Nat → Prop} : ∀ {a b : List Mv} {pa pb : List Value}, MsIn w S a pa → MsIn w S b pb → MsIn w S (a ++ b) (pa ++ pb)
  | [], b, pa, pb, h, k => by unfold MsIn at h; subst h; exact k
  | m :: a, b, pa, pb, h, k => by
    unfold MsIn at h
    obtain ⟨c, rest, rfl, h2, h3⟩ := h
    show MsIn w S (m :: (a ++ b)) _
    unfold MsIn
    exact ⟨c, rest ++ pb, by simp, h2, h3.app k⟩
/-- What run comes to. -/
def runR (f : List UInt8) (ms : List Mv) : Int × List UInt8 :=
  let p := plays0 (⟨1, f, 0⟩ :: ⟨2, [], 0⟩ :: ms)
  (firstE p.1, if firstE p.1 = 0 then p.2.1 else f)
def DrvR (w1 : World) (cs : List Int) (n : Nat) (gk : Nat) (s28 : Value) (wr : World) : Prop :=
  ∃ k : Nat, s28 = .int .i64 (k : Int) ∧ k ≤ n ∧ gk = n - k ∧ (∀ c ∈ cs.take k, c = 0) ∧ wr = w1
def DrvPost (N : Nat → Prop) (g : Nat) (s : List Rw × List UInt8) (ms : List Mv) (w : World) (e : Ending) (w' : World) : Prop :=
  e = .returned (.int .i64 (runR s.2 ms).1) ∧ StIn N w' g (s.1, (runR s.2 ms).2) ∧ w.grownBy w' (some g)
set_option maxHeartbeats 2000000 in
set_option maxRecDepth 100000 in
theorem drive_any4 {N : Nat → Prop} (g : Nat) (s : List Rw × List UInt8) (ms : List Mv) (Am : Option Addr) (nm cm : Nat) (w : World) (hst : StIn N w g s) (hN : ∀ b, N b → b < w.heap.size) (hms : MvsIn w w.heap.size Am nm cm ms) (hnm : nm ≤ 10) (hf : s.2.length ≤ 1200) :
    Calls Try.prog 78 #[.pointer (some ⟨g, 0, none⟩), .slice Am nm cm] w fun e w' => DrvPost N g s ms w e w' ∧ w'.cell? ⟨g, 1, none⟩ = w.cell? ⟨g, 1, none⟩ := by
  have hg := hst.lt
  obtain ⟨Af, cf, At, ct, hB, hbf, hbt⟩ := hst
  have c0 : w.cell? ⟨g, 0, none⟩ = some (.slice Af s.2.length cf) := hB.cell 0
  obtain ⟨i0, hi0, hz0, hzs, hzb⟩ := info_parts info_mv
  have HB := Lib.hid hB
  have Hbf := Lib.hid hbf
  have Hbt := Lib.hid hbt
  have Hms := Lib.hid hms
  clear hB hbf hbt hms
  obtain ⟨W, hW⟩ : ∃ W, w.alloc (.cells #[.int .i64 1, .slice Af s.2.length cf, .int .i64 0, .int .i64 2, .slice none 0 0, .int .i64 0] 158) = W := ⟨_, rfl⟩
  have hWo : W.ownsRow w.heap.size 158 3 (.slice (some ⟨w.heap.size, 0, none⟩) 2 2) 2 [.int .i64 1, .slice Af s.2.length cf, .int .i64 0, .int .i64 2, .slice none 0 0, .int .i64 0] := by
    rw [← hW]
    exact ⟨rfl, .inr ⟨w.heap.size, 2, #[.int .i64 1, .slice Af s.2.length cf, .int .i64 0, .int .i64 2, .slice none 0 0, .int .i64 0], rfl, Nat.le_refl _, Blk.new w _ _, by simp, by unfold maxLen; omega, rfl, rfl⟩⟩
  have hWb : Below w.heap.size w W := by rw [← hW]; exact (Below.refl _ _).alloc (Nat.le_refl _) _
  obtain ⟨hml, hmc, hmA, pc, hpc, hmi⟩ := Hms.out
  obtain ⟨v', wf, hrun, ho', hg', _⟩ := run_app_all (P := Try.prog) W 183 183 w.heap.size 158 i0 _ 3 40 Try.underlying183 hi0 hz0 hzs hzb rfl (by decide) _ 2 _ hWo w.heap.size Am nm cm pc hmA (hpc.below hWb) hmi.one (by omega) (by decide) hWb.size
  have hbf' : Below w.heap.size w wf := below_own hWb hg' hWo (Nat.le_refl _) hWb.size
  obtain ⟨A', c', rfl, hA'⟩ := own_form ho'
  have hin : MvsIn wf wf.heap.size A' (2 + nm) c' (⟨1, s.2, 0⟩ :: ⟨2, [], 0⟩ :: ms) := by
    refine ⟨by simp; omega, ?_, fun h => (hA' h).2, _, Holds.own ho', ?_⟩
    · rcases ho'.2 with ⟨hv, hn⟩ | ⟨g', cap, cur, hv, _, _, hnc, _⟩
      · omega
      · injection hv with _ _ hc; omega
    · unfold MsIn
      refine ⟨[.int .i64 1, .slice Af s.2.length cf, .int .i64 0], .int .i64 2 :: .slice none 0 0 :: .int .i64 0 :: pc, rfl, ?_, ?_⟩
      · obtain ⟨_, k2, k3, k4⟩ := (Hbf.out.below hbf').mono (S' := fun b => b < wf.heap.size) fun b hb _ => hb
        exact ⟨Af, cf, rfl, by show s.2.length ≤ _; omega, k2, k3, ⟨by simp, by simp⟩, ⟨by simp, by simp⟩, k4⟩
      · unfold MsIn
        refine ⟨[.int .i64 2, .slice none 0 0, .int .i64 0], pc, rfl, ?_, ?_⟩
        · exact ⟨none, 0, rfl, by simp, by simp, fun _ => rfl, ⟨by simp, by simp⟩, ⟨by simp, by simp⟩, HoldsS.nil⟩
        · exact (hmi.kept fun p hp => hbf'.cell hp).mono fun b hb => Nat.lt_of_lt_of_le hb hbf'.size
  have HP := Lib.hid (play_any A' (2 + nm) c' wf.heap.size _ wf hin (Nat.le_refl _) (by omega))
  have Hrun := Lib.hid hrun
  have Hbw := Lib.hid hbf'
  have hlen2 : (⟨1, s.2, 0⟩ :: ⟨2, [], 0⟩ :: ms : List Mv).length = 2 + nm := by simp; omega
  unfold PlayPost at HP
  rw [hlen2] at HP
  have HR := Lib.hid (show runR s.2 ms = (firstE (plays0 (⟨1, s.2, 0⟩ :: ⟨2, [], 0⟩ :: ms)).1, if firstE (plays0 (⟨1, s.2, 0⟩ :: ⟨2, [], 0⟩ :: ms)).1 = 0 then (plays0 (⟨1, s.2, 0⟩ :: ⟨2, [], 0⟩ :: ms)).2.1 else s.2) from rfl)
  have hpl := plays0_len (⟨1, s.2, 0⟩ :: ⟨2, [], 0⟩ :: ms)
  rw [hlen2] at hpl
  generalize plays0 (⟨1, s.2, 0⟩ :: ⟨2, [], 0⟩ :: ms) = pl at *
  obtain ⟨cs, left, sy⟩ := pl
  simp only at hpl HR HP
  have Hpl := Lib.hid hpl
  clear hrun hbf' hin ho' hg' hA' hlen2 hpl hml hmc hmA hpc hmi hWo hWb
  go_enter Try.func78, Try.ntmps78
  go_wp2_with (first | (at_builtin; refine rw_app rfl _ _ _ rfl _ _ (by rfl) (by rfl) Hrun.out ?_; clear Hrun) | fail)
  refine HP.out.mono ?_
  rintro e w2 ⟨A1, c1, A2, c2, rfl, ho1, ho2, hb2⟩
  have Hb2 := Lib.hid (Hbw.out.trans (hb2.mono Hbw.out.size))
  have hhc := Holds.own ho1
  obtain ⟨_, _, e1, hbl⟩ := BIn.row ho2
  injection e1 with e11 _ e13
  subst e11 e13
  have hs0 := Hbw.out.size
  have Hbl := Lib.hid (hbl.mono (S' := fun b => b ≠ g ∧ ¬ N b) fun b _ hb => ⟨by omega, fun h => by have := hN b h; omega⟩)
  have Hhc := Lib.hid hhc
  have hB2 := HB.out.below Hb2.out hg
  have d0 : w2.cell? ⟨g, 0, none⟩ = some (.slice Af s.2.length cf) := hB2.cell 0
  have d1 := hB2.frozen 0
  have HB2 := Lib.hid hB2
  obtain ⟨nn, hnn⟩ : ∃ nn, 2 + nm = nn := ⟨_, rfl⟩
  rw [hnn] at Hhc Hpl
  simp only [hnn]
  have hnn2 : nn ≤ 12 := by omega
  clear ho1 ho2 hbl hhc hb2 HP hB2 hnn
  go_wp2_with fail
  go_loopg [28] nn (DrvR w2 cs nn)
  case atStart => exact ⟨0, rfl, Nat.zero_le _, by omega, by simp, rfl⟩
  case round =>
    obtain ⟨k, rfl, hk, hgk, hz, rfl⟩ := hrel
    have Hgk := Lib.hid hgk
    have Hz := Lib.hid hz
    clear hgk hz
    by_cases hkn : k < nn
    · obtain ⟨b, off, u, rfl, hbb, hu, hcu⟩ := Hhc.out.at1 hkn
      have hkc : k < cs.length := by have := Hpl.out; omega
      have hu' : u = .int .i64 cs[k] := by
        rw [List.getElem?_map, List.getElem?_eq_getElem hkc] at hu
        simpa using hu.symm
      subst hu'
      have hf1 := fun h => firstE_take hkc Hz.out h
      have hz1 : cs[k] = 0 → ∀ c ∈ cs.take (k + 1), c = 0 := fun h c hc => by
        rw [List.take_succ_eq_append_getElem hkc] at hc
        rcases List.mem_append.1 hc with hc | hc
        · exact Hz.out c hc
        · simp at hc; exact hc.trans h
      have Hf1 := Lib.hid hf1
      have Hz1 := Lib.hid hz1
      generalize cs[k] = x at *
      have hkn' : (k : Int) < (nn : Int) := by omega
      clear hf1 hz1
      by_cases hx : x = 0
      · have HZ := Lib.hid (Hz1.out hx)
        subst hx
        go_wp2_with fail
        go_roundg (nn - (k + 1))
        case measure => have := Hgk.out; omega
        case rel => exact ⟨k + 1, by go_num, by omega, rfl, HZ.out, rfl⟩
      · have HE := Lib.hid (Hf1.out hx)
        have hxb : (x == 0) = false := by simpa using hx
        have Hx := Lib.hid hx
        clear hx
        go_wp2_with fail
        go_ret
        have hr : runR s.2 ms = (x, s.2) := by rw [HR.out, HE.out, if_neg Hx.out]
        refine ⟨⟨by rw [hr]; rfl, ?_, only_below Hb2.out (some g)⟩, Hb2.out.cell (p := ⟨g, 1, none⟩) hg⟩
        rw [hr]
        exact ⟨Af, cf, At, ct, HB2.out, Hbf.out.below Hb2.out, Hbt.out.below Hb2.out⟩
    · have hke : cs.take k = cs := List.take_of_length_le (by have := Hpl.out; omega)
      have HE := Lib.hid (firstE_all (l := cs) (by have := Hz.out; rwa [hke] at this))
      have hkn' : ¬ (k : Int) < (nn : Int) := by omega
      clear hke
      go_wp2_with fail
      go_ret
      have hr : runR s.2 ms = (0, left) := by rw [HR.out, HE.out, if_pos rfl]
      refine ⟨⟨by rw [hr]; rfl, ?_, only_setCell (only_below Hb2.out (some g)) (.inl rfl) _⟩, ?_⟩
      rotate_left
      · have e2 : w.cell? ⟨g, 1, none⟩ = some (.slice At s.1.length ct) := HB.out.cell 1
        exact (show _ = some (Value.slice At s.1.length ct) from (HB2.out.set_ 0 (Value.slice A2 left.length c2)).cell 1).trans e2.symm
      rw [hr]
      exact ⟨A2, c2, At, ct, HB2.out.set_ 0 _, Hbl.out.set_ (by simp) _, (Hbt.out.below Hb2.out).set_ (by simp) _⟩
theorem drive_any {N : Nat → Prop} (g : Nat) (s : List Rw × List UInt8) (ms : List Mv) (Am : Option Addr) (nm cm : Nat) (w : World) (hst : StIn N w g s) (hN : ∀ b, N b → b < w.heap.size) (hms : MvsIn w w.heap.size Am nm cm ms) (hnm : nm ≤ 10) (hf : s.2.length ≤ 1200) :
    Calls Try.prog 78 #[.pointer (some ⟨g, 0, none⟩), .slice Am nm cm] w (DrvPost N g s ms w) := (drive_any4 g s ms Am nm cm w hst hN hms hnm hf).mono fun _ _ h => h.1
end Go.Proofs.Ytmlgaedhfannmaa

/- The store: what its runs of moves come to. -/
namespace Go.Proofs.Ytmlgaedhfannmaa
set_option linter.unusedVariables false
set_option linter.unusedSimpArgs false
open Go.RowKit
theorem plays_cons (s : List UInt8 × Nat) (m : Mv) (r : List Mv) : plays s (m :: r) = ((mvR s m).1 :: (plays (mvR s m).2 r).1, (plays (mvR s m).2 r).2) := rfl
theorem plays_nil (s : List UInt8 × Nat) : plays s [] = ([], s) := rfl
/-- A disk that holds the file, all of it synced. -/
theorem plays0_held {f : List UInt8} (hf : f.length ≤ 1200) (ms : List Mv) : plays0 (⟨1, f, 0⟩ :: ⟨2, [], 0⟩ :: ms) = (0 :: 0 :: (plays (f, f.length) ms).1, (plays (f, f.length) ms).2) := by
  unfold plays0
  rw [plays_cons, mv_write rfl (by simp [disk0]; omega)]
  simp only
  rw [plays_cons, mv_sync rfl]
  simp [disk0]
theorem runR_held {f : List UInt8} (hf : f.length ≤ 1200) (ms : List Mv) : runR f ms = (firstE (plays (f, f.length) ms).1, if firstE (plays (f, f.length) ms).1 = 0 then (plays (f, f.length) ms).2.1 else f) := by
  unfold runR
  rw [plays0_held hf]
  simp [firstE]
theorem run_commit {f b : List UInt8} (hf : f.length ≤ 1200) : runR f [⟨1, b, 0⟩, ⟨2, [], 0⟩] = if 1200 < f.length + b.length then (10, f) else (0, f ++ b) := by
  rw [runR_held hf, plays_cons]
  by_cases h : 1200 < f.length + b.length
  · rw [if_pos h, mv_write_full rfl h]
    simp [firstE]
  · rw [if_neg h, mv_write rfl h, plays_cons, mv_sync rfl, plays_nil]
    simp [firstE]
theorem run_pack {f b : List UInt8} (hf : f.length ≤ 1200) (hb : b.length ≤ 1200) : runR f [⟨3, [], 0⟩, ⟨1, b, 0⟩, ⟨2, [], 0⟩] = (0, b) := by
  rw [runR_held hf, plays_cons, mv_trim (k := 0) rfl rfl (by simp), plays_cons]
  rw [mv_write rfl (by simp; omega), plays_cons, mv_sync rfl, plays_nil]
  simp [firstE]
theorem run_crash {f b : List UInt8} {n : Int} (hf : f.length ≤ 1200) (hn : 0 ≤ n) : runR f [⟨1, b, 0⟩, ⟨4, [], n⟩] = if 1200 < f.length + b.length then (10, f) else (0, f ++ b.take n.toNat) := by
  rw [runR_held hf, plays_cons]
  by_cases h : 1200 < f.length + b.length
  · have h2 : ∃ y, mvR (f, f.length) ⟨4, [], n⟩ = (0, y) := ⟨_, mv_fall (k := f.length + min n.toNat (f.length - f.length)) rfl hn (Nat.le_refl _) rfl⟩
    obtain ⟨y, hy⟩ := h2
    rw [if_pos h, mv_write_full rfl h]
    simp [firstE]
  · rw [if_neg h, mv_write rfl h, plays_cons]
    have e : (f ++ b).length - f.length = b.length := by simp
    rw [mv_fall (k := f.length + min n.toNat b.length) rfl hn (by simp) (by simp only; rw [e]), plays_nil]
    simp only [firstE, if_true]
    rw [List.take_append, List.take_of_length_le (Nat.le_add_right _ _), show f.length + min n.toNat b.length - f.length = min n.toNat b.length by omega]
    congr 2
    rcases Nat.le_total n.toNat b.length with h1 | h1
    · rw [Nat.min_eq_left h1]
    · rw [Nat.min_eq_right h1, List.take_of_length_le (Nat.le_refl _), List.take_of_length_le h1]
theorem run_trim {f : List UInt8} {k : Nat} (hf : f.length ≤ 1200) (hk : k ≤ f.length) : runR f [⟨3, [], (k : Int)⟩] = (0, f.take k) := by
  rw [runR_held hf, plays_cons, mv_trim (k := k) rfl rfl hk, plays_nil]
  simp [firstE]
/-- Moves that have just been laid in a block of their own. -/
theorem mvs_lit (w : World) (ms : List Mv) (pc : List Value) (k : Nat) (hk : ms.length = k) (h : MsIn w (fun b => b < w.heap.size) ms pc) (ca : Array Value) (hca : ca = pc.toArray) :
    MvsIn (w.alloc (.cells ca 158)) (w.alloc (.cells ca 158)).heap.size (some ⟨w.heap.size, 0, none⟩) k k ms := by
  subst hca
  refine ⟨hk, Nat.le_refl _, fun h => (by cases h), pc, ⟨by rw [h.len, hk], fun _ => ⟨w.heap.size, 0, rfl, by simp, fun j u hu => ?_⟩⟩, (h.kept fun p hp => World.cell?_alloc_lt _ _ p hp).mono fun b hb => by simp; omega⟩
  rw [Nat.zero_add, (Blk.new w 158 _).cell j]
  simpa using hu
theorem min_write {w : World} {S : Nat → Prop} {A : Option Addr} {n c : Nat} {b : List UInt8} (h : BIn w S A n c b) (hn : n ≤ 1048576) : MIn w S ⟨1, b, 0⟩ [.int .i64 1, .slice A n c, .int .i64 0] := by
  obtain ⟨h1, h2, h3, h4⟩ := h
  subst h1
  exact ⟨A, c, rfl, hn, h2, h3, ⟨by simp, by simp⟩, ⟨by simp, by simp⟩, h4⟩
theorem min_bare {w : World} {S : Nat → Prop} (k n : Int) (hk : 0 ≤ k ∧ k ≤ 10) (hn : 0 ≤ n ∧ n ≤ 9223372036854775807) : MIn w S ⟨k, [], n⟩ [.int .i64 k, .slice none 0 0, .int .i64 n] :=
  ⟨none, 0, rfl, by simp, by simp, fun _ => rfl, ⟨by simp only; omega, by simp only; omega⟩, ⟨by simp only; omega, by simp only; omega⟩, HoldsS.nil⟩
theorem MsIn.cons {w : World} {S : Nat → Prop} {m : Mv} {ms : List Mv} {c pc : List Value} (h : MIn w S m c) (k : MsIn w S ms pc) : MsIn w S (m :: ms) (c ++ pc) := by
  unfold MsIn; exact ⟨c, pc, rfl, h, k⟩
theorem MsIn.none {w : World} {S : Nat → Prop} : MsIn w S [] [] := by unfold MsIn; rfl
end Go.Proofs.Ytmlgaedhfannmaa

/- The store: plan and commit. -/
namespace Go.Proofs.Ytmlgaedhfannmaa
set_option linter.unusedVariables false
set_option linter.unusedSimpArgs false
open Go.RowKit
def PlanPost (s : List Rw × List UInt8) (cs : List Rw) (w : World) (e : Ending) (w' : World) : Prop :=
  ∃ vt vb, e = .returned (.tuple #[vt, vb, .int .i64 (planE s.1 cs)]) ∧ (planE s.1 cs = 0 → w'.ownsRow w.heap.size 51 2 vt (sets s.1 cs).length (pcR (sets s.1 cs)) ∧ Own w' w.heap.size vb (pkF cs)) ∧ Below w.heap.size w w'
set_option maxHeartbeats 2000000 in
set_option maxRecDepth 100000 in
theorem plan_any {N : Nat → Prop} (g : Nat) (s : List Rw × List UInt8) (A : Option Addr) (n c : Nat) (cs : List Rw) (w : World) (hst : StIn N w g s) (hft : Fit s.1) (hl : RIn w w.heap.size A n c cs) (hs : Short cs) (hn : n ≤ 9223372036854775807) :
    Calls Try.prog 77 #[.pointer (some ⟨g, 0, none⟩), .slice A n c] w (PlanPost s cs w) := by
  have hg := hst.lt
  obtain ⟨Af, cf, At, ct, hB, hbf, hbt⟩ := hst
  have c1 : w.cell? ⟨g, 1, none⟩ = some (.slice At s.1.length ct) := hB.cell 1
  have hln := hl.1
  by_cases h0 : n = 0
  · subst h0
    have hnil : cs = [] := List.eq_nil_of_length_eq_zero hln
    have HE := Lib.hid (show planE s.1 cs = 1 by unfold planE; rw [if_pos hnil])
    clear hl hln hbf hbt hB
    go_enter Try.func77, Try.ntmps77
    go_wp2_with fail
    go_ret3
    unfold PlanPost
    rw [HE.out]
    exact ⟨_, _, rfl, fun h => (by cases h), Below.refl _ _⟩
  · have hne : cs ≠ [] := by rintro rfl; exact h0 (by simpa using hln.symm)
    have HE := Lib.hid (show planE s.1 cs = (setN s.1 cs).2 by unfold planE; rw [if_neg hne])
    have HS := Lib.hid (set_any At A s.1.length ct n c w.heap.size w.heap.size s.1 cs w hbt.all (Nat.le_refl _) (fun r hr => by have := hft.shortR r hr; omega) (by have := hft.len; omega) hl (Nat.le_refl _) hs hn)
    have hn0 : ((n : Int) == 0) = false := by simp; omega
    have Hl := Lib.hid hl
    by_cases hz : (setN s.1 cs).2 = 0
    · have hp := plan_ok hft (HE.out.trans hz)
      have HP := Lib.hid (show ∀ W, Below w.heap.size w W → _ from fun W hb => stPack_any A n c w.heap.size cs W (hl.below hb) hb.size (by have := hp.1.2.1; omega) hp.1.2.2)
      rw [hp.2.2] at HS
      have HE2 := Lib.hid (show planE s.1 cs = 0 from HE.out.trans hz)
      clear hl hln hbf hbt hB h0 hne hz HE
      go_enter Try.func77, Try.ntmps77
      go_wp2_with fail
      refine HS.out.mono ?_
      rintro e w1 ⟨v1, rfl, ho1, hb1⟩
      replace ho1 : w1.ownsRow w.heap.size 51 2 v1 (sets s.1 cs).length (pcR (sets s.1 cs)) := ho1
      have Ho1 := Lib.hid ho1
      have Hb1 := Lib.hid hb1
      have HP' := Lib.hid (HP.out w1 hb1)
      clear ho1 hb1 HS HP
      go_wp2_with fail
      refine HP'.out.mono ?_
      rintro e w2 ⟨v2, rfl, ho2, hb2⟩
      have Ho2 := Lib.hid ho2
      have Hb2 := Lib.hid hb2
      clear ho2 hb2 HP'
      go_wp2_with fail
      go_ret3
      unfold PlanPost
      rw [HE2.out]
      exact ⟨v1, v2, rfl, fun _ => ⟨rowR_below Ho1.out Hb2.out, rw_le Ho2.out Hb1.out.size⟩, Hb1.out.trans (Hb2.out.mono Hb1.out.size)⟩
    · obtain ⟨x, hx⟩ : ∃ x, (setN s.1 cs).2 = x := ⟨_, rfl⟩
      rw [hx] at HE hz HS
      have hxb : (x == 0) = false := by simpa using hz
      have Hz := Lib.hid hz
      clear hl hln hbf hbt hB h0 hne hz hx
      go_enter Try.func77, Try.ntmps77
      go_wp2_with fail
      refine HS.out.mono ?_
      rintro e w1 ⟨v1, rfl, ho1, hb1⟩
      have Hb1 := Lib.hid hb1
      clear ho1 hb1 HS
      go_wp2_with fail
      go_ret3
      unfold PlanPost
      rw [HE.out]
      exact ⟨_, _, rfl, fun h => absurd h Hz.out, Hb1.out⟩
/-- What an act that changes comes to: its code, the store behind it. -/
def commitN (s : List Rw × List UInt8) (cs : List Rw) : Int × (List Rw × List UInt8) :=
  if planE s.1 cs ≠ 0 then (planE s.1 cs, s) else if 1200 < s.2.length + (pkF cs).length then (10, s) else (0, (sets s.1 cs, s.2 ++ pkF cs))
def ActPost (N : Nat → Prop) (g : Nat) (X : Int × (List Rw × List UInt8)) (w : World) (e : Ending) (w' : World) : Prop :=
  e = .returned (.int .i64 X.1) ∧ StIn N w' g X.2 ∧ w.grownBy w' (some g)
theorem pkF_small (cs : List Rw) : (pkF cs).length ≤ 6000 := by
  unfold pkF packR
  split
  · rename_i h
    unfold okB at h
    simp only [Bool.and_eq_true, decide_eq_true_eq, List.all_eq_true] at h
    have h1 := pkT_len_le (batOf cs).length 0 (batOf cs) (fun r hr => ((recB_ok r).1 (h.2.2 r hr)).2)
    show (pkT (batOf cs).length 0 (batOf cs)).length ≤ 6000
    omega
  · simp
theorem own_low {w : World} {base e size n : Nat} {v : Value} {xs : List Value} (h : w.ownsRow base e size v n xs) : ∀ k, v.ownBlock = some k → base ≤ k := fun k hk => (h.lt k hk).1
set_option maxHeartbeats 2000000 in
set_option maxRecDepth 100000 in
theorem commit_any {N : Nat → Prop} (g : Nat) (s : List Rw × List UInt8) (A : Option Addr) (n c : Nat) (cs : List Rw) (w : World) (hst : StIn N w g s) (hN : ∀ b, N b → b < w.heap.size) (hft : Fit s.1) (hf : s.2.length ≤ 1200) (hl : RIn w w.heap.size A n c cs) (hs : Short cs) (hn : n ≤ 9223372036854775807) :
    Calls Try.prog 55 #[.pointer (some ⟨g, 0, none⟩), .slice A n c] w (ActPost N g (commitN s cs) w) := by
  have HP := Lib.hid (plan_any g s A n c cs w hst hft hl hs hn)
  have Hst := Lib.hid hst
  have hg := hst.lt
  clear hl hs hst
  by_cases h0 : planE s.1 cs = 0
  · have hck : commitN s cs = if 1200 < s.2.length + (pkF cs).length then (10, s) else (0, (sets s.1 cs, s.2 ++ pkF cs)) := by unfold commitN; rw [if_neg (by simp [h0])]
    have Hck := Lib.hid hck
    have hrc := run_commit (f := s.2) (b := pkF cs) hf
    have Hrc := Lib.hid hrc
    have hpk := pkF_small cs
    unfold PlanPost at HP
    rw [h0] at HP
    clear hck hrc h0
    go_enter Try.func55, Try.ntmps55
    go_wp2_with fail
    refine HP.out.mono ?_
    rintro e w1 ⟨vt, vb, rfl, h1, hb1⟩
    obtain ⟨hot, hob⟩ := h1 (by trivial)
    obtain ⟨Ab, cb, rfl, hbb⟩ := BIn.row (l := pkF cs) hob
    obtain ⟨At, ct, rfl, hrt⟩ := RInS.row hot
    have hst1 := Hst.out.below hb1
    have hmi : MsIn w1 (fun b => b < w1.heap.size) [⟨1, pkF cs, 0⟩, ⟨2, [], 0⟩] ([.int .i64 1, .slice Ab (pkF cs).length cb, .int .i64 0] ++ ([.int .i64 2, .slice none 0 0, .int .i64 0] ++ [])) :=
      MsIn.cons (min_write (hbb.mono fun b hb _ => hb) (by omega)) (MsIn.cons (min_bare 2 0 (by omega) (by omega)) MsIn.none)
    have hmv := mvs_lit w1 _ _ 2 rfl hmi #[.int .i64 1, .slice Ab (pkF cs).length cb, .int .i64 0, .int .i64 2, .slice none 0 0, .int .i64 0] rfl
    obtain ⟨W, hW⟩ : ∃ W, w1.alloc (.cells #[.int .i64 1, .slice Ab (pkF cs).length cb, .int .i64 0, .int .i64 2, .slice none 0 0, .int .i64 0] 158) = W := ⟨_, rfl⟩
    have hWb : Below w1.heap.size w1 W := by rw [← hW]; exact (Below.refl _ _).alloc (Nat.le_refl _) _
    rw [hW] at hmv
    have HD := Lib.hid (drive_any g s _ _ 2 2 W (hst1.below hWb) (nUp hN (Nat.le_trans hb1.size hWb.size)) hmv (by omega) hf)
    unfold DrvPost at HD
    rw [Hrc.out] at HD
    have Hrt := Lib.hid (hrt.below hWb)
    have Hb1 := Lib.hid (hb1.trans (hWb.mono hb1.size))
    clear h1 hot hob hbb hrt hst1 hmi hmv hb1 hWb HP
    by_cases h12 : 1200 < s.2.length + (pkF cs).length
    · rw [if_pos h12] at HD
      have HE := Lib.hid (show commitN s cs = (10, s) by rw [Hck.out, if_pos h12])
      clear h12
      generalize (pkF cs).length = pl at *
      generalize (sets s.1 cs).length = tl at *
      go_wp2_with fail
      refine HD.out.mono ?_
      rintro e w2 ⟨rfl, hst2, hg2⟩
      have Hst2 := Lib.hid hst2
      have Hg2 := Lib.hid ((only_below Hb1.out (some g)).trans hg2)
      clear hst2 hg2 HD
      go_wp2_with fail
      go_ret
      rw [HE.out]
      exact ⟨rfl, Hst2.out, Hg2.out⟩
    · rw [if_neg h12] at HD
      have HE := Lib.hid (show commitN s cs = (0, (sets s.1 cs, s.2 ++ pkF cs)) by rw [Hck.out, if_neg h12])
      clear h12
      go_wp2_with fail
      refine HD.out.mono ?_
      rintro e w2 ⟨rfl, hst2, hg2⟩
      obtain ⟨Af2, cf2, At2, ct2, k1, k2, k3⟩ := hst2
      have d1 : w2.cell? ⟨g, 1, none⟩ = some (.slice At2 s.1.length ct2) := k1.cell 1
      have f1 := k1.frozen 1
      have K1 := Lib.hid k1
      have K2 := Lib.hid k2
      have hs1 := Hb1.out.size
      have Hrt2 := Lib.hid ((Hrt.out.kept fun p hp hlt => World.cell?_of_block (hg2.block p.block hlt (fun e => by injection e with e; have : w.heap.size ≤ p.block := hp; omega))).mono (S' := fun b => b ≠ g ∧ ¬ N b) fun b _ hb => ⟨by omega, fun h => by have := hN b h; omega⟩)
      have Hg2 := Lib.hid ((only_below Hb1.out (some g)).trans hg2)
      clear k1 k2 k3 hg2 HD Hrt
      go_wp2_with fail
      go_ret
      rw [HE.out]
      exact ⟨rfl, ⟨Af2, cf2, At, ct, K1.out.set_ 1 _, K2.out.set_ (by simp) _, Hrt2.out.set_ (by simp) _⟩, only_setCell Hg2.out (.inl rfl) _⟩
  · have HE := Lib.hid (show commitN s cs = (planE s.1 cs, s) by unfold commitN; rw [if_pos h0])
    unfold PlanPost at HP
    generalize planE s.1 cs = x at *
    have hxb : (x == 0) = false := by simpa using h0
    clear h0
    go_enter Try.func55, Try.ntmps55
    go_wp2_with fail
    refine HP.out.mono ?_
    rintro e w1 ⟨vt, vb, rfl, -, hb1⟩
    have Hst1 := Lib.hid (Hst.out.below hb1)
    have Hb1 := Lib.hid hb1
    clear hb1 HP
    go_wp2_with fail
    go_ret
    rw [HE.out]
    exact ⟨rfl, Hst1.out, only_below Hb1.out (some g)⟩
end Go.Proofs.Ytmlgaedhfannmaa
