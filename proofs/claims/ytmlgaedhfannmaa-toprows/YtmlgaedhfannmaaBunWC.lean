/- Joined texts: WlMem, WlPack. -/
import Derived.Test.YtmlgaedhfannmaaBunA
import Derived.Test.YtmlgaedhfannmaaBunWA
/- Lists of slices of bytes in memory, and lists of those. -/
namespace Go.Proofs.Ytmlgaedhfannmaa
set_option linter.unusedVariables false
set_option linter.unusedSimpArgs false
open Go.RowKit
/-- Place for place. -/
def Ats {α : Type} (R : α → Value → Prop) (xs : List α) (cs : List Value) : Prop := cs.length = xs.length ∧ ∀ (i : Nat) (x : α) (v : Value), xs[i]? = some x → cs[i]? = some v → R x v
theorem Ats.nil {α : Type} {R : α → Value → Prop} : Ats R [] [] := ⟨rfl, fun i x v h => by simp at h⟩
theorem Ats.snoc {α : Type} {R : α → Value → Prop} {xs : List α} {cs : List Value} {x : α} {v : Value} (h : Ats R xs cs) (hx : R x v) : Ats R (xs ++ [x]) (cs ++ [v]) := by
  refine ⟨by simp [h.1], fun i y u hy hu => ?_⟩
  rw [List.getElem?_append] at hy hu
  rw [h.1] at hu
  split at hy
  · rename_i hi
    rw [if_pos hi] at hu
    exact h.2 i y u hy hu
  · rename_i hi
    rw [if_neg hi] at hu
    have h0 : i - xs.length = 0 := by
      rcases Nat.eq_zero_or_pos (i - xs.length) with h | h
      · exact h
      · rw [List.getElem?_eq_none (by simp; omega)] at hy; cases hy
    rw [h0] at hy hu
    simp at hy hu
    subst hy hu
    exact hx
theorem Ats.imp {α : Type} {R R' : α → Value → Prop} {xs : List α} {cs : List Value} (h : Ats R xs cs) (hi : ∀ x v, R x v → R' x v) : Ats R' xs cs := ⟨h.1, fun i x v hx hv => hi x v (h.2 i x v hx hv)⟩
theorem Ats.take {α : Type} {R : α → Value → Prop} {xs : List α} {cs : List Value} (h : Ats R xs cs) (n : Nat) : Ats R (xs.take n) (cs.take n) := by
  refine ⟨by rw [List.length_take, List.length_take, h.1], fun i x v hx hv => ?_⟩
  rw [List.getElem?_take] at hx hv
  split at hx
  · rename_i hi
    rw [if_pos hi] at hv
    exact h.2 i x v hx hv
  · cases hx
theorem Ats.app {α : Type} {R : α → Value → Prop} {xs ys : List α} {cs ds : List Value} (h : Ats R xs cs) (h2 : Ats R ys ds) : Ats R (xs ++ ys) (cs ++ ds) := by
  refine ⟨by simp [h.1, h2.1], fun i y u hy hu => ?_⟩
  rw [List.getElem?_append] at hy hu
  rw [h.1] at hu
  split at hy
  · rename_i hi; rw [if_pos hi] at hu; exact h.2 i y u hy hu
  · rename_i hi; rw [if_neg hi] at hu; exact h2.2 _ y u hy hu

def In1 (w : World) (S : Nat → Prop) (l : List UInt8) (v : Value) : Prop :=
  ∃ A c, v = .slice A l.length c ∧ l.length ≤ c ∧ (A = none → c = 0) ∧ HoldsS w S 1 A l.length (l.map bv)
def InL {α : Type} (In : World → (Nat → Prop) → α → Value → Prop) (w : World) (S : Nat → Prop) (xs : List α) (v : Value) : Prop :=
  ∃ A c cs, v = .slice A xs.length c ∧ xs.length ≤ c ∧ (A = none → c = 0) ∧ HoldsS w S 1 A xs.length cs ∧ Ats (In w S) xs cs
/-- It rests on the cells of its blocks alone. -/
def Stays {α : Type} (In : World → (Nat → Prop) → α → Value → Prop) : Prop :=
  (∀ (w w' : World) (S : Nat → Prop) (x : α) (v : Value), In w S x v → (∀ p : Addr, S p.block → w'.cell? p = w.cell? p) → In w' S x v) ∧
  (∀ (w : World) (S S' : Nat → Prop) (x : α) (v : Value), In w S x v → (∀ b, S b → S' b) → In w S' x v)
theorem stays1 : Stays In1 := by
  refine ⟨?_, ?_⟩
  · rintro w w' S x v ⟨A, c, h1, h2, h3, h4⟩ hk
    exact ⟨A, c, h1, h2, h3, h4.kept hk⟩
  · rintro w S S' x v ⟨A, c, h1, h2, h3, h4⟩ hs
    exact ⟨A, c, h1, h2, h3, h4.mono hs⟩
theorem Stays.list {α : Type} {In : World → (Nat → Prop) → α → Value → Prop} (h : Stays In) : Stays (InL In) := by
  refine ⟨?_, ?_⟩
  · rintro w w' S x v ⟨A, c, cs, h1, h2, h3, h4, h5⟩ hk
    exact ⟨A, c, cs, h1, h2, h3, h4.kept hk, h5.imp fun y u hy => h.1 w w' S y u hy hk⟩
  · rintro w S S' x v ⟨A, c, cs, h1, h2, h3, h4, h5⟩ hs
    exact ⟨A, c, cs, h1, h2, h3, h4.mono hs, h5.imp fun y u hy => h.2 w S S' y u hy hs⟩
def In2 := InL In1
def In3 := InL In2
theorem stays2 : Stays In2 := stays1.list
theorem stays3 : Stays In3 := stays2.list
def lowB (B : Nat) : Nat → Prop := fun b => b < B
section
variable {α : Type} {In : World → (Nat → Prop) → α → Value → Prop} {w w' : World} {S S' : Nat → Prop} {B B' : Nat} {x : α} {v : Value}
theorem Stays.below (hI : Stays In) (h : In w (lowB B) x v) (hb : Below B w w') : In w' (lowB B) x v := hI.1 _ _ _ _ _ h fun _ hp => hb.cell hp
theorem Stays.wider (hI : Stays In) (h : In w (lowB B) x v) (hB : B ≤ B') : In w (lowB B') x v := hI.2 _ _ _ _ _ h fun _ hb => Nat.lt_of_lt_of_le hb hB
theorem Stays.ats (hI : Stays In) {xs : List α} {cs : List Value} (h : Ats (In w S) xs cs) (hk : ∀ p : Addr, S p.block → w'.cell? p = w.cell? p) (hs : ∀ b, S b → S' b) : Ats (In w' S') xs cs :=
  h.imp fun y u hy => hI.2 _ _ _ _ _ (hI.1 _ _ _ _ _ hy hk) hs
end
/-- Between two rows of the call's own (or one): the blocks that are neither. -/
def offOf (base : Nat) (w : World) (a b : Value) : Nat → Prop := fun k => base ≤ k ∧ k < w.heap.size ∧ some k ≠ a.ownBlock ∧ some k ≠ b.ownBlock
end Go.Proofs.Ytmlgaedhfannmaa

/- Package wal: Pack. -/
namespace Go.Proofs.Ytmlgaedhfannmaa
set_option linter.unusedVariables false
set_option linter.unusedSimpArgs false
open Go.RowKit
def recB (r : List UInt8) : Bool := decide (1 ≤ r.length) && decide (r.length ≤ 60)
theorem recB_ok (r : List UInt8) : recB r = true ↔ okRec r := by simp [recB, okRec]
def okB (bs : List (List UInt8)) : Bool := decide (1 ≤ bs.length) && (decide (bs.length ≤ 60) && bs.all recB)
def packR (bs : List (List UInt8)) : List UInt8 × Int := if okB bs then (pack bs, 0) else ([], 1)
theorem InL.at_ {α : Type} {In : World → (Nat → Prop) → α → Value → Prop} {w : World} {B n k : Nat} {A : Option Addr} {xs : List α} {cs : List Value} (h : HoldsS w (lowB B) 1 A n cs) (ha : Ats (In w (lowB B)) xs cs) (hk : k < n) (hn : n = xs.length) :
    ∃ b off u, A = some ⟨b, off, none⟩ ∧ b < B ∧ w.cell? ⟨b, off + k, none⟩ = some u ∧ In w (lowB B) (xs[k]'(by omega)) u := by
  have h' : Holds w B 1 A n cs := h
  obtain ⟨b, off, u, e, hb, hu, hc⟩ := h'.at1 hk
  exact ⟨b, off, u, e, hb, hc, ha.2 k _ u (List.getElem?_eq_getElem (by omega)) hu⟩
theorem isRecordSize_any (n : Nat) (w : World) (hn : n ≤ 9223372036854775807) :
    Calls Try.prog 123 #[.int .i64 n] w fun e w' => e = .returned (.bool (decide (1 ≤ n) && decide (n ≤ 60))) ∧ w = w' := by
  by_cases h1 : 1 ≤ n
  · by_cases h2 : n ≤ 60
    · rw [decide_eq_true h1, decide_eq_true h2]
      go_enter Try.func123, Try.ntmps123
      go_wp2
      go_ret
      exact ⟨ret_bool (by simp; omega), rfl⟩
    · rw [decide_eq_true h1, decide_eq_false h2]
      go_enter Try.func123, Try.ntmps123
      go_wp2
      go_ret
      exact ⟨ret_bool (by simp; omega), rfl⟩
  · rw [decide_eq_false h1]
    go_enter Try.func123, Try.ntmps123
    go_wp2
    go_ret
    exact ⟨rfl, rfl⟩
theorem wrongSize_any (A : Option Addr) (n c : Nat) (w : World) (hn : n ≤ 9223372036854775807) :
    Calls Try.prog 122 #[.slice A n c] w fun e w' => e = .returned (.bool (!(decide (1 ≤ n) && decide (n ≤ 60)))) ∧ w = w' := by
  have h0 := isRecordSize_any n w hn
  obtain ⟨b, hb⟩ : ∃ b, (decide (1 ≤ n) && decide (n ≤ 60)) = b := ⟨_, rfl⟩
  rw [hb] at h0 ⊢
  have H0 := Lib.hid h0
  clear h0 hb
  go_enter Try.func122, Try.ntmps122
  go_wp2_with fail
  refine H0.out.mono ?_
  rintro e w1 ⟨rfl, rfl⟩
  go_wp2
  go_ret
  exact ⟨rfl, rfl⟩
def IfR (w : World) (bs : List (List UInt8)) (n : Nat) (gk : Nat) (vi : Value) (wr : World) : Prop :=
  ∃ k : Nat, vi = .int .i64 k ∧ k ≤ n ∧ gk = n - k ∧ (bs.take k).all recB = true ∧ w = wr
theorem indexFunc_any (A : Option Addr) (n c B : Nat) (bs : List (List UInt8)) (cs : List Value) (w : World) (hh : HoldsS w (lowB B) 1 A n cs) (ha : Ats (In1 w (lowB B)) bs cs) (hn : n = bs.length)
    (hn2 : n ≤ 9223372036854775807) (hl : ∀ r ∈ bs, r.length ≤ 9223372036854775807) :
    Calls Try.prog 141 #[.slice A n c, .func (.func 122) #[] #[]] w fun e w' => ∃ i : Int, e = .returned (.int .i64 i) ∧ -1 ≤ i ∧ i ≤ 9223372036854775807 ∧ decide (0 ≤ i) = !(bs.all recB) ∧ w = w' := by
  have Hn := Lib.hid hn
  clear hn
  go_enter Try.func141, Try.ntmps141
  go_wp2
  go_loopg [8] n (IfR w bs n)
  case atStart => exact ⟨0, rfl, by omega, by omega, rfl, rfl⟩
  case round =>
    obtain ⟨k, rfl, hk, hgk, hall, rfl⟩ := hrel
    have Hgk := Lib.hid hgk
    have Hall := Lib.hid hall
    clear hgk hall
    by_cases hkn : k < n
    · obtain ⟨b, off, u, rfl, hbb, hc1, A1, c1, rfl, hc2, hA1, hr1⟩ := InL.at_ hh ha hkn Hn.out
      have hkl : k < bs.length := by have := Hn.out; omega
      have hl1 := hl bs[k] (List.getElem_mem hkl)
      have Hs := Lib.hid (show (bs.take (k + 1)).all recB = recB bs[k] by rw [List.take_succ_eq_append_getElem hkl, List.all_append, Hall.out]; simp)
      have Hr := Lib.hid (show (!(decide (1 ≤ bs[k].length) && decide (bs[k].length ≤ 60))) = !(recB bs[k]) from rfl)
      have Hm := Lib.hid (show bs.all recB = true → recB bs[k] = true from fun h => List.all_eq_true.1 h _ (List.getElem_mem hkl))
      go_wp2_with fail
      refine (wrongSize_any A1 bs[k].length c1 _ hl1).mono ?_
      rintro e w1 ⟨rfl, rfl⟩
      rw [Hr.out]
      cases hb : recB bs[k]
      · rw [hb] at Hm
        go_wp2
        go_ret
        refine ⟨k, rfl, by omega, by omega, ?_, rfl⟩
        rw [decide_eq_true (by omega)]
        cases h : bs.all recB
        · rfl
        · have := Hm.out h; cases this
      · rw [hb] at Hs
        go_wp2
        go_roundg (n - (k + 1))
        case measure => have := Hgk.out; omega
        case rel => exact ⟨k + 1, by go_num, by omega, rfl, Hs.out, rfl⟩
    · have hkn' : k = n := by omega
      subst hkn'
      go_wp2
      go_ret
      refine ⟨-1, rfl, by omega, by omega, ?_, rfl⟩
      have := Hall.out
      rw [List.take_of_length_le (by have := Hn.out; omega)] at this
      rw [this]; rfl
theorem containsFunc_any (A : Option Addr) (n c B : Nat) (bs : List (List UInt8)) (cs : List Value) (w : World) (hh : HoldsS w (lowB B) 1 A n cs) (ha : Ats (In1 w (lowB B)) bs cs) (hn : n = bs.length)
    (hn2 : n ≤ 9223372036854775807) (hl : ∀ r ∈ bs, r.length ≤ 9223372036854775807) :
    Calls Try.prog 124 #[.slice A n c, .func (.func 122) #[] #[]] w fun e w' => e = .returned (.bool !(bs.all recB)) ∧ w = w' := by
  have H0 := Lib.hid (indexFunc_any A n c B bs cs w hh ha hn hn2 hl)
  clear hh ha hn hl
  go_enter Try.func124, Try.ntmps124
  go_wp2_with fail
  refine H0.out.mono ?_
  rintro e w1 ⟨i, rfl, h1, h2, h3, rfl⟩
  go_wp2
  go_ret
  exact ⟨ret_bool (by rw [← h3]), rfl⟩
def PkR (w : World) (bs : List (List UInt8)) (n : Nat) (gk : Nat) (vp vi : Value) (wr : World) : Prop :=
  ∃ k : Nat, vi = .int .i64 k ∧ k ≤ n ∧ gk = n - k ∧ Own wr w.heap.size vp (pkT n 0 (bs.take k)) ∧ Below w.heap.size w wr
theorem pkT_len_le (n i : Nat) (l : List (List UInt8)) (h : ∀ r ∈ l, r.length ≤ 60) : (pkT n i l).length ≤ l.length * 64 := by
  induction l generalizing i with
  | nil => simp [pkT]
  | cons r t ih =>
    have h1 := h r (by simp)
    have h2 := ih (i + 1) (fun x hx => h x (by simp [hx]))
    simp only [pkT, List.length_append, frm_len, List.length_cons, Nat.add_mul]
    omega
set_option maxHeartbeats 1000000 in
theorem pack_any (A : Option Addr) (n c B : Nat) (bs : List (List UInt8)) (cs : List Value) (w : World) (hh : HoldsS w (lowB B) 1 A n cs) (ha : Ats (In1 w (lowB B)) bs cs) (hn : n = bs.length) (hB : B ≤ w.heap.size)
    (hn2 : n ≤ 9223372036854775807) (hl : ∀ r ∈ bs, r.length ≤ 9223372036854775807) :
    Calls Try.prog 108 #[.slice A n c] w fun e w' => ∃ v', e = .returned (.tuple #[v', .int .i64 (packR bs).2]) ∧ Own w' w.heap.size v' (packR bs).1 ∧ Below w.heap.size w w' := by
  have Hn := Lib.hid hn
  clear hn
  by_cases h1 : (n : Int) < 1
  · have H := Lib.hid (show packR bs = ([], 1) by unfold packR okB; rw [decide_eq_false (by have := Hn.out; omega)]; rfl)
    go_enter Try.func108, Try.ntmps108
    go_wp2
    go_ret2
    exact ⟨_, by rw [H.out]; rfl, by rw [H.out]; exact Own.nil _ _, Below.refl _ _⟩
  · by_cases h2 : 60 < (n : Int)
    · have H := Lib.hid (show packR bs = ([], 1) by unfold packR okB; rw [decide_eq_false (show ¬ bs.length ≤ 60 by have := Hn.out; omega)]; simp)
      go_enter Try.func108, Try.ntmps108
      go_wp2
      go_ret2
      exact ⟨_, by rw [H.out]; rfl, by rw [H.out]; exact Own.nil _ _, Below.refl _ _⟩
    · have HC := Lib.hid (containsFunc_any A n c B bs cs w hh ha Hn.out hn2 hl)
      cases hb : bs.all recB
      · have H := Lib.hid (show packR bs = ([], 1) by unfold packR okB; rw [hb]; simp)
        rw [hb] at HC
        go_enter Try.func108, Try.ntmps108
        go_wp2_with fail
        refine HC.out.mono ?_
        rintro e w1 ⟨rfl, rfl⟩
        go_wp2
        go_ret2
        exact ⟨_, by rw [H.out]; rfl, by rw [H.out]; exact Own.nil _ _, Below.refl _ _⟩
      · have H := Lib.hid (show packR bs = (pack bs, 0) by unfold packR okB; rw [hb, decide_eq_true (show 1 ≤ bs.length by have := Hn.out; omega), decide_eq_true (show bs.length ≤ 60 by have := Hn.out; omega)]; rfl)
        rw [hb] at HC
        have Hok := Lib.hid (show ∀ r ∈ bs, r.length ≤ 60 from fun r hr => ((recB_ok r).1 (List.all_eq_true.1 hb r hr)).2)
        have Hh := Lib.hid hh
        have Ha := Lib.hid ha
        clear hh ha hb hl
        go_enter Try.func108, Try.ntmps108
        go_wp2_with fail
        refine HC.out.mono ?_
        rintro e w1 ⟨rfl, rfl⟩
        go_wp2
        go_loopg [5, 23] n (PkR w bs n)
        case atStart => exact ⟨0, rfl, by omega, by omega, Own.nil _ _, Below.refl _ _⟩
        case round =>
          obtain ⟨k, rfl, hk, hgk, hown, hbe⟩ := hrel
          obtain ⟨Av, cv, rfl, hAv⟩ := own_form hown
          have Hgk := Lib.hid hgk
          have Hown := Lib.hid hown
          have Hbe := Lib.hid hbe
          have hsz := hbe.size
          clear hgk hown hbe
          by_cases hkn : k < n
          · have hh2 : HoldsS wr (lowB B) 1 A n cs := Hh.out.kept fun p hp => Hbe.out.cell (Nat.lt_of_lt_of_le hp hB)
            have ha2 : Ats (In1 wr (lowB B)) bs cs := stays1.ats Ha.out (fun p hp => Hbe.out.cell (Nat.lt_of_lt_of_le hp hB)) (fun _ h => h)
            obtain ⟨b, off, u, rfl, hbb, hc1, A1, c1, rfl, hc2, hA1, hr1⟩ := InL.at_ hh2 ha2 hkn Hn.out
            have hkl : k < bs.length := by have := Hn.out; omega
            have hl1 := Hok.out bs[k] (List.getElem_mem hkl)
            have hlp := pkT_len_le n 0 (bs.take k) (fun r hr => Hok.out r (List.mem_of_mem_take hr))
            have hlp2 : (pkT n 0 (bs.take k)).length ≤ 100000 := by rw [List.length_take] at hlp; have := Hn.out; omega
            have hr2 : Holds wr w.heap.size 1 A1 bs[k].length (bs[k].map bv) := Holds.wider (show Holds wr B 1 A1 _ _ from hr1) hB
            have Hs := Lib.hid (show pkT n 0 (bs.take (k + 1)) = pkT n 0 (bs.take k) ++ frm (flagOf n k) bs[k] by
                rw [List.take_succ_eq_append_getElem hkl, pkT_snoc, List.length_take, Nat.min_eq_left (by omega), Nat.zero_add])
            by_cases hlast : k + 1 = n
            · have he : ((k : Int) == (n : Int) - 1) = true := by simp; omega
              have Hf := Lib.hid (show flagOf n k = 1 by unfold flagOf; rw [if_pos hlast])
              have HF := Lib.hid (appendFrame_yes _ (pkT n 0 (bs.take k)) w.heap.size A1 c1 bs[k] wr Hown.out hsz hr2 hA1 hl1 hlp2)
              rw [Hf.out] at Hs
              clear hlp hr1 hh2 ha2 hr2 hlp2 hl1
              generalize (pkT n 0 (bs.take k)).length = m at *
              generalize bs[k].length = m1 at *
              go_wp2_with fail
              refine HF.out.mono ?_
              rintro e w1 ⟨v1, rfl, hown1, hbe1⟩
              rw [← Hs.out] at hown1
              go_wp2
              go_roundg (n - (k + 1))
              case measure => have := Hgk.out; omega
              case rel => exact ⟨k + 1, by go_num, by omega, rfl, hown1, Hbe.out.trans hbe1⟩
            · have he : ((k : Int) == (n : Int) - 1) = false := by simp; omega
              have Hf := Lib.hid (show flagOf n k = 0 by unfold flagOf; rw [if_neg hlast])
              have HF := Lib.hid (appendFrame_no _ (pkT n 0 (bs.take k)) w.heap.size A1 c1 bs[k] wr Hown.out hsz hr2 hA1 hl1 hlp2)
              rw [Hf.out] at Hs
              clear hlp hr1 hh2 ha2 hr2 hlp2 hl1
              generalize (pkT n 0 (bs.take k)).length = m at *
              generalize bs[k].length = m1 at *
              go_wp2_with fail
              refine HF.out.mono ?_
              rintro e w1 ⟨v1, rfl, hown1, hbe1⟩
              rw [← Hs.out] at hown1
              go_wp2
              go_roundg (n - (k + 1))
              case measure => have := Hgk.out; omega
              case rel => exact ⟨k + 1, by go_num, by omega, rfl, hown1, Hbe.out.trans hbe1⟩
          · have hkn' : k = n := by omega
            subst hkn'
            go_wp2
            go_ret2
            have h0 := Hown.out
            have hL : bs.take k = bs := List.take_of_length_le (by have := Hn.out; omega)
            rw [hL] at h0 ⊢
            refine ⟨_, by rw [H.out]; rfl, ?_, Hbe.out⟩
            rw [H.out]
            show Own wr w.heap.size _ (pack bs)
            unfold pack
            rw [← Hn.out]
            exact h0
end Go.Proofs.Ytmlgaedhfannmaa
