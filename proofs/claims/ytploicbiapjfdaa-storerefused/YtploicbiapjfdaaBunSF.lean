/- Joined texts: StActs, StTwo. -/
import Derived.Test.YtploicbiapjfdaaBunSE
import Derived.Test.YtploicbiapjfdaaBunRC
import Derived.Test.YtploicbiapjfdaaOpenW
/- The store: Acts, the acts that the statements draw. -/
namespace Go.Proofs.Ytploicbiapjfdaa
set_option linter.unusedVariables false
set_option linter.unusedSimpArgs false
open Go.RowKit
def kts9 : List (List UInt8) := kts ++ [[116]]
/-- Rows that are drawn, and one more. -/
def OkRows (l : List Rw) : Prop := l ≠ [] ∧ l.length ≤ 4 ∧ goodC l = true ∧ ∀ r ∈ l, r.key ∈ kts9
/-- An act that is drawn. -/
def OkAc (a : Ac) : Prop := ((a.kind = 1 ∨ a.kind = 5) ∧ OkRows a.rows ∨ (a.kind = 2 ∨ a.kind = 3 ∨ a.kind = 4) ∧ a.rows = []) ∧ a.key.length ≤ 20 ∧ 0 ≤ a.n ∧ a.n < 40
def AcsR (w : World) (n lim : Nat) (gk : Nat) (s5 s6 : Value) (wr : World) : Prop :=
  ∃ (k : Nat) (acs : List Ac), s6 = .int .i64 (k : Int) ∧ k ≤ lim ∧ k ≤ n ∧ gk = lim - k ∧ acs.length = k ∧ (∀ a ∈ acs, OkAc a) ∧ AsS wr w.heap.size (fun b => w.heap.size ≤ b ∧ some b ≠ s5.ownBlock) s5 acs ∧ Below w.heap.size w wr
def tv : Rw := ⟨[116], [118]⟩
theorem okRows_tv {cs : List Rw} (hd : Drawn cs) (hl : cs.length ≤ 3) : OkRows (cs ++ [tv]) := by
  refine ⟨by simp, by simp; omega, ?_, fun r hr => ?_⟩
  · unfold goodC
    rw [List.all_append]
    have := drawn_good hd
    unfold goodC at this
    rw [this]; decide
  · rcases List.mem_append.1 hr with h | h
    · exact List.mem_append_left _ (drawn_keys hd r h)
    · simp at h; subst h; decide
theorem ints_lit (W : World) (m : Int) (hm : -9223372036854775808 ≤ m ∧ m ≤ 9223372036854775807) : IntsAt (W.alloc (.cells #[.int .i64 m] 3)) (W.alloc (.cells #[.int .i64 m] 3)).heap.size (some ⟨W.heap.size, 0, none⟩) 1 1 := by
  refine ⟨[m], ⟨rfl, fun _ => ⟨W.heap.size, 0, rfl, by simp, fun j u hu => ?_⟩⟩, Nat.le_refl _, by omega, by simpa using hm⟩
  rw [Nat.zero_add, (Blk.new W 3 _).cell j]
  simpa using hu
theorem kts_len : ∀ k ∈ kts, k.length ≤ 20 := by decide
/-- One act more behind the acts. -/
theorem acts_more {w W : World} {v : Value} {acs : List Ac} (hbe : Below w.heap.size w W) (has : AsS W w.heap.size (fun b => w.heap.size ≤ b ∧ some b ≠ v.ownBlock) v acs) (a : Ac) (cs : List Value) (ha : AIn W (fun b => w.heap.size ≤ b ∧ some b ≠ v.ownBlock) a cs) (ca : Array Value) (hca : ca = cs.toArray) (hn : acs.length + 1 ≤ 1048576) :
    ∃ v' wf, (Builtin.append_ #[22, 22] 22 #[v, .slice (some ⟨W.heap.size, 0, none⟩) 1 1]).run Try.prog (W.alloc (.cells ca 44)) = .ok v' wf ∧
      AsS wf w.heap.size (fun b => w.heap.size ≤ b ∧ some b ≠ v'.ownBlock) v' (acs ++ [a]) ∧ Below w.heap.size w wf := by
  have hm : ∀ b, b < W.heap.size → (w.heap.size ≤ b ∧ some b ≠ v.ownBlock) → (b < W.heap.size ∧ w.heap.size ≤ b ∧ some b ≠ v.ownBlock) := fun b h1 h2 => ⟨h1, h2⟩
  obtain ⟨v', wf, h1, h2, h3, h4, h5⟩ := acts_put (S := fun b => b < W.heap.size ∧ w.heap.size ≤ b ∧ some b ≠ v.ownBlock) (has.mono hm) (fun b h => h.2.2) a cs (ha.mono hm) ca hca hn hbe.size
  refine ⟨v', wf, h1, h2.mono fun b _ hb => ⟨hb.2.1, fun e => ?_⟩, h3 _ _ hbe (Nat.le_refl _) hbe.size⟩
  rcases h5 with h5 | h5
  · exact hb.2.2 (e.trans h5)
  · have := h5 b e.symm; omega
set_option maxHeartbeats 4000000 in
set_option maxRecDepth 100000 in
theorem acts_any (A : Option Addr) (n c lim : Nat) (w : World) (hx : WsIn w w.heap.size A n) (hlim : lim ≤ 60) :
    Calls Try.prog 19 #[.slice A n c, .int .i64 (lim : Int)] w fun e w' => ∃ v acs, e = .returned v ∧ acs.length = min n lim ∧ (∀ a ∈ acs, OkAc a) ∧ AsS w' w.heap.size (fun b => w.heap.size ≤ b ∧ some b ≠ v.ownBlock) v acs ∧ Below w.heap.size w w' := by
  have hn := hx.1
  have Hx := Lib.hid hx
  clear hx
  go_enter Try.func19, Try.ntmps19
  go_wp2_with fail
  go_loopg [5, 6] lim (AcsR w n lim)
  case atStart => exact ⟨0, [], rfl, Nat.zero_le _, Nat.zero_le _, by omega, rfl, by simp, AsS.nil _ _ _, Below.refl _ _⟩
  case round =>
    obtain ⟨k, acs, rfl, hk, hkn, hgk, hal, hok, has, hbe⟩ := hrel
    obtain ⟨A5, c5, rfl, -⟩ := has.form
    rw [hal]
    rw [hal] at has
    have Hgk := Lib.hid hgk
    have Hal := Lib.hid hal
    have Hok := Lib.hid hok
    have Has := Lib.hid has
    have Hbe := Lib.hid hbe
    have hszw := hbe.size
    clear hgk hal hok has hbe
    by_cases hlt : k < n
    · have hlti : (k : Int) < (n : Int) := by omega
      by_cases hlt2 : k < lim
      · have hlti2 : (k : Int) < (lim : Int) := by omega
        obtain ⟨b, off, kd, m, Ar, nr, cr, hA, hbB, hir, hkd, hm, d0, d1, d2⟩ := (Hx.out.below Hbe.out).at_ hlt
        subst hA
        have hbw : b < wr.heap.size := by omega
        obtain ⟨W, hW⟩ : ∃ W, wr.alloc (.cells #[.int .i64 kd, .slice Ar nr cr, .int .i64 m] 81) = W := ⟨_, rfl⟩
        have hWB := Blk.new wr 81 #[.int .i64 kd, .slice Ar nr cr, .int .i64 m]
        have hWb : Below wr.heap.size wr W := by rw [← hW]; exact (Below.refl _ _).alloc (Nat.le_refl _) _
        rw [hW] at hWB
        have x0 : W.cell? ⟨wr.heap.size, 0, none⟩ = some (.int .i64 kd) := hWB.cell 0
        have x1 : W.cell? ⟨wr.heap.size, 1, none⟩ = some (.slice Ar nr cr) := hWB.cell 1
        have x2 : W.cell? ⟨wr.heap.size, 2, none⟩ = some (.int .i64 m) := hWB.cell 2
        have HCh := Lib.hid (changes_any Ar nr cr W.heap.size 3 W ((hir.below (hWb.mono hszw)).wider (by have := hWb.size; omega)) (Nat.le_refl _) (by omega))
        have HWB := Lib.hid hWB
        have Hbe2 := Lib.hid (Hbe.out.trans (hWb.mono hszw))
        have Has2 := Lib.hid (Has.out.below hWb)
        have hwl : wr.heap.size < W.heap.size := hWB.lt
        clear hWB hWb hir
        go_wp2_with fail
        refine HCh.out.mono ?_
        rintro e w2 ⟨v2, cs, rfl, ho2, hcl, hdr, hb2⟩
        have hcl3 : cs.length ≤ 3 := by omega
        have Hok2 := Lib.hid (okRows_tv hdr hcl3)
        have HSh := Lib.hid (drawn_short hdr)
        obtain ⟨v3, w3, hrun3, ho3, hg3, -⟩ := run_app_row4 w2 W.heap.size cs.length v2 cs tv ho2 (by omega) hb2.size
        have Hrun3 := Lib.hid (show (Builtin.append_ #[29, 29] 29 #[v2, .slice (some ⟨w2.heap.size, 0, none⟩) 1 1]).run Try.prog (w2.alloc (.cells #[.string ⟨#[116]⟩, .string ⟨#[118]⟩] 50)) = .ok v3 w3 from hrun3)
        have hb3 : Below W.heap.size W w3 := below_own (hb2.alloc hb2.size _) hg3 (ho2.alloc _) (Nat.le_refl _) (by have := hb2.size; simp; omega)
        obtain ⟨A3, c3, rfl, hr3⟩ := RInS.row ho3
        have y0 : w3.cell? ⟨wr.heap.size, 0, none⟩ = some (.int .i64 kd) := (hb3.cell hwl).trans x0
        have y2 : w3.cell? ⟨wr.heap.size, 2, none⟩ = some (.int .i64 m) := (hb3.cell hwl).trans x2
        have hs3 := hb3.size
        have hw3 : wr.heap.size < w3.heap.size := by omega
        have hl3 : (cs ++ [tv]).length = cs.length + 1 := by simp
        generalize cs.length + 1 = m3 at *
        have Hr3 := Lib.hid hr3
        have Hl3 := Lib.hid hl3
        have Hb3 := Lib.hid (Hbe2.out.trans (hb3.mono Hbe2.out.size))
        have Has3 := Lib.hid (Has2.out.below hb3)
        clear hcl3 hdr ho2 hcl hb2 hrun3 ho3 hg3 hb3 hr3 hl3 x0 x1 x2 HCh HWB Has2 Hbe2
        go_wp2_with (first | (at_builtin; refine rw_app rfl _ _ _ rfl _ _ (by rfl) (by rfl) Hrun3.out ?_; clear Hrun3) | fail)
        refine (picked_any kd 9 _ (by decide) (by decide)).mono ?_
        rintro e w4 ⟨rfl, rfl⟩
        obtain ⟨x, hx⟩ : ∃ x, kd % 9 = x := ⟨_, rfl⟩
        rw [hx]
        clear hx
        obtain ⟨W5, hW5⟩ : ∃ W5, w3.alloc (.cells #[.int .i64 1, .slice A3 m3 c3, .string ⟨#[]⟩, .int .i64 0] 44) = W5 := ⟨_, rfl⟩
        have hB5 := Blk.new w3 44 #[.int .i64 1, .slice A3 m3 c3, .string ⟨#[]⟩, .int .i64 0]
        have hb5 : Below w3.heap.size w3 W5 := by rw [← hW5]; exact (Below.refl _ _).alloc (Nat.le_refl _) _
        rw [hW5] at hB5 ⊢
        have hg5 : w3.heap.size < W5.heap.size := hB5.lt
        have hw5 : wr.heap.size < W5.heap.size := by omega
        have z0 : W5.cell? ⟨wr.heap.size, 0, none⟩ = some (.int .i64 kd) := (hb5.cell hw3).trans y0
        have z2 : W5.cell? ⟨wr.heap.size, 2, none⟩ = some (.int .i64 m) := (hb5.cell hw3).trans y2
        have b0 : W5.cell? ⟨w3.heap.size, 0, none⟩ = some (.int .i64 1) := hB5.cell 0
        have b1 : W5.cell? ⟨w3.heap.size, 1, none⟩ = some (.slice A3 m3 c3) := hB5.cell 1
        have b2 : W5.cell? ⟨w3.heap.size, 2, none⟩ = some (.string ⟨#[]⟩) := hB5.cell 2
        have b3 : W5.cell? ⟨w3.heap.size, 3, none⟩ = some (.int .i64 0) := hB5.cell 3
        have f0 := hB5.frozen 0
        have f1 := hB5.frozen 1
        have f2 := hB5.frozen 2
        have f3 := hB5.frozen 3
        have Has5 := Lib.hid (Has3.out.below hb5)
        have Hb5 := Lib.hid (Hb3.out.trans (hb5.mono Hb3.out.size))
        have Hr5 := Lib.hid (Hr3.out.below hb5)
        have HB5 := Lib.hid hB5
        have Hb35 := Lib.hid hb5
        have Hlg5 := Lib.hid (Nat.le_refl w3.heap.size)
        clear hB5 hb5 y0 y2 hW5
        have HRow : Hid (∀ {W' : World}, Below w3.heap.size w3 W' → RInS W' (fun b => w.heap.size ≤ b ∧ some b ≠ (Value.slice A5 k c5).ownBlock) A3 (cs ++ [tv]).length c3 (cs ++ [tv])) := Lib.hid fun hb => by
          rw [Hl3.out]
          obtain ⟨pc5, ho5, -⟩ := Has.out
          exact (Hr3.out.below hb).mono fun b _ hb => ⟨by omega, fun e => by have := (ho5.lt b e.symm).2; omega⟩
        have HShR : Hid (Short (cs ++ [tv])) := Lib.hid fun r hr => by
          rcases List.mem_append.1 hr with h | h
          · exact HSh.out r h
          · simp at h; subst h; decide
        by_cases x4 : x = 4
        · subst x4
          have HC := Lib.hid (changes_any (some ⟨W5.heap.size, 0, none⟩) 1 1 _ 1 _ (ints_lit W5 m hm) (Nat.le_refl _) (by decide))
          have HbA := Lib.hid (show Below W5.heap.size W5 (W5.alloc (.cells #[.int .i64 m] 3)) from (Below.refl _ _).alloc (Nat.le_refl _) _)
          go_wp2_with fail
          refine HC.out.mono ?_
          rintro e w6 ⟨v6, ks, rfl, ho6, hk6, hd6, hb6⟩
          replace hb6 := HbA.out.trans (hb6.mono HbA.out.size)
          obtain ⟨r, rfl⟩ : ∃ r, ks = [r] := by
            match ks, hk6 with
            | [r], _ => exact ⟨r, rfl⟩
          obtain ⟨A6, c6, rfl, hr6⟩ := RInS.row ho6
          replace hr6 : RInS w6 _ A6 1 c6 [r] := hr6
          obtain ⟨b6, off6, rfl, -, hk6c, -⟩ := hr6.all.at_ (i := 0) (by simp)
          replace hk6c : w6.cell? ⟨b6, off6, none⟩ = some (str r.key) := by simpa using hk6c
          have hrk : r.key.length ≤ 20 := kts_len _ (drawn_keys hd6 r (by simp))
          have hB6 := HB5.out.below hb6 hg5
          have f0 := hB6.frozen 0
          have f1 := hB6.frozen 1
          have f2 := hB6.frozen 2
          have f3 := hB6.frozen 3
          have b0 : w6.cell? ⟨w3.heap.size, 0, none⟩ = some (.int .i64 1) := hB6.cell 0
          have b1 : w6.cell? ⟨w3.heap.size, 1, none⟩ = some (.slice A3 m3 c3) := hB6.cell 1
          have b2 : w6.cell? ⟨w3.heap.size, 2, none⟩ = some (.string ⟨#[]⟩) := hB6.cell 2
          have b3 : w6.cell? ⟨w3.heap.size, 3, none⟩ = some (.int .i64 0) := hB6.cell 3
          have hg6 : w3.heap.size < w6.heap.size := hB6.lt
          have Hb36 := Lib.hid (Hb35.out.trans (hb6.mono Hb35.out.size))
          clear ho6 hk6 hd6 hb6 hr6 hB6 HC HbA
          have hsz6 : (((((w6).setCell ⟨w3.heap.size, 0, none⟩ (.int .i64 2)).setCell ⟨w3.heap.size, 1, none⟩ (.slice none 0 0)).setCell ⟨w3.heap.size, 2, none⟩ (str r.key)).setCell ⟨w3.heap.size, 3, none⟩ (.int .i64 0)).heap.size = w6.heap.size := by simp [World.setCell]
          have hb6 : Below w3.heap.size w3 (((((w6).setCell ⟨w3.heap.size, 0, none⟩ (.int .i64 2)).setCell ⟨w3.heap.size, 1, none⟩ (.slice none 0 0)).setCell ⟨w3.heap.size, 2, none⟩ (str r.key)).setCell ⟨w3.heap.size, 3, none⟩ (.int .i64 0)) := ((((Hb36.out).setCell (p := ⟨w3.heap.size, 0, none⟩) (Nat.le_refl _) _).setCell (p := ⟨w3.heap.size, 1, none⟩) (Nat.le_refl _) _).setCell (p := ⟨w3.heap.size, 2, none⟩) (Nat.le_refl _) _).setCell (p := ⟨w3.heap.size, 3, none⟩) (Nat.le_refl _) _
          have hain : AIn (((((w6).setCell ⟨w3.heap.size, 0, none⟩ (.int .i64 2)).setCell ⟨w3.heap.size, 1, none⟩ (.slice none 0 0)).setCell ⟨w3.heap.size, 2, none⟩ (str r.key)).setCell ⟨w3.heap.size, 3, none⟩ (.int .i64 0)) (fun b => w.heap.size ≤ b ∧ some b ≠ (Value.slice A5 k c5).ownBlock) ⟨2, [], r.key, 0⟩ [.int .i64 2, .slice none 0 0, str r.key, .int .i64 0] := ain_bare _ rfl (by simp; omega) (by simp)
          obtain ⟨v7, w7, hrun7, has7, hb7⟩ := acts_more (Hb3.out.trans (hb6.mono Hb3.out.size)) (Has3.out.below hb6) ⟨2, [], r.key, 0⟩ _ hain #[.int .i64 2, .slice none 0 0, str r.key, .int .i64 0] rfl (by have := Hal.out; omega)
          rw [hsz6] at hrun7
          clear hsz6
          have Hrun7 := Lib.hid hrun7
          have Has7 := Lib.hid has7
          have Hb7 := Lib.hid hb7
          have Hok7 : Hid (OkAc ⟨2, [], r.key, 0⟩) := Lib.hid (by exact ⟨.inr ⟨.inl rfl, rfl⟩, hrk, by simp, by simp⟩)
          clear hb6 hain hrun7 has7 hb7
          go_wp2_with (first | (at_builtin; refine rw_app rfl _ _ _ rfl _ _ (by rfl) (by rfl) Hrun7.out ?_; clear Hrun7) | fail)
          go_roundg (lim - (k + 1))
          case measure => have := Hgk.out; omega
          case rel =>
            refine ⟨k + 1, acs ++ [⟨2, [], r.key, 0⟩], by go_num, by omega, by omega, by omega, by have := Hal.out; simp; omega, fun y hy => ?_, Has7.out, Hb7.out⟩
            rcases List.mem_append.1 hy with hy | hy
            · exact Hok.out y hy
            · simp at hy; subst hy; exact Hok7.out
        · by_cases x5 : x = 5
          · subst x5
            have HB6 := Lib.hid (Blk.new W5 9 #[.string ⟨#[]⟩, .string ⟨#[97]⟩, .string ⟨#[107]⟩])
            have HbA := Lib.hid (show Below W5.heap.size W5 (W5.alloc (.cells #[.string ⟨#[]⟩, .string ⟨#[97]⟩, .string ⟨#[107]⟩] 9)) from (Below.refl _ _).alloc (Nat.le_refl _) _)
            go_wp2_with fail
            refine (picked_any m 3 _ (by decide) (by decide)).mono ?_
            rintro e w6 ⟨rfl, rfl⟩
            obtain ⟨y, hy⟩ : ∃ y : Nat, m % 3 = (y : Int) := ⟨(m % 3).toNat, by have := Int.emod_nonneg m (show (3 : Int) ≠ 0 by decide); omega⟩
            have hy3 : y < 3 := by have := Int.emod_lt_of_pos m (show (0 : Int) < 3 by decide); omega
            rw [hy]
            clear hy
            obtain ⟨q, hq, hql⟩ : ∃ q : List UInt8, (#[.string ⟨#[]⟩, .string ⟨#[97]⟩, .string ⟨#[107]⟩] : Array Value)[y]? = some (str q) ∧ q.length ≤ 20 := by
              match y, hy3 with
              | 0, _ => exact ⟨[], rfl, by simp⟩
              | 1, _ => exact ⟨[97], rfl, by simp⟩
              | 2, _ => exact ⟨[107], rfl, by simp⟩
            obtain ⟨w6, hw6⟩ : ∃ w6, W5.alloc (.cells #[.string ⟨#[]⟩, .string ⟨#[97]⟩, .string ⟨#[107]⟩] 9) = w6 := ⟨_, rfl⟩
            rw [hw6] at HbA HB6 ⊢
            have hyc : w6.cell? ⟨W5.heap.size, y, none⟩ = some (str q) := (HB6.out.cell y).trans hq
            have hB6 := HB5.out.below HbA.out hg5
            have f0 := hB6.frozen 0
            have f1 := hB6.frozen 1
            have f2 := hB6.frozen 2
            have f3 := hB6.frozen 3
            have b0 : w6.cell? ⟨w3.heap.size, 0, none⟩ = some (.int .i64 1) := hB6.cell 0
            have b1 : w6.cell? ⟨w3.heap.size, 1, none⟩ = some (.slice A3 m3 c3) := hB6.cell 1
            have b2 : w6.cell? ⟨w3.heap.size, 2, none⟩ = some (.string ⟨#[]⟩) := hB6.cell 2
            have b3 : w6.cell? ⟨w3.heap.size, 3, none⟩ = some (.int .i64 0) := hB6.cell 3
            have hg6 : w3.heap.size < w6.heap.size := hB6.lt
            have hy3i : (y : Int) < 3 := by omega
            have Hb36 := Lib.hid (Hb35.out.trans (HbA.out.mono Hb35.out.size))
            clear hB6 HB6 HbA hq hw6
            have hsz6 : (((((w6).setCell ⟨w3.heap.size, 0, none⟩ (.int .i64 3)).setCell ⟨w3.heap.size, 1, none⟩ (.slice none 0 0)).setCell ⟨w3.heap.size, 2, none⟩ (str q)).setCell ⟨w3.heap.size, 3, none⟩ (.int .i64 0)).heap.size = w6.heap.size := by simp [World.setCell]
            have hb6 : Below w3.heap.size w3 (((((w6).setCell ⟨w3.heap.size, 0, none⟩ (.int .i64 3)).setCell ⟨w3.heap.size, 1, none⟩ (.slice none 0 0)).setCell ⟨w3.heap.size, 2, none⟩ (str q)).setCell ⟨w3.heap.size, 3, none⟩ (.int .i64 0)) := ((((Hb36.out).setCell (p := ⟨w3.heap.size, 0, none⟩) (Nat.le_refl _) _).setCell (p := ⟨w3.heap.size, 1, none⟩) (Nat.le_refl _) _).setCell (p := ⟨w3.heap.size, 2, none⟩) (Nat.le_refl _) _).setCell (p := ⟨w3.heap.size, 3, none⟩) (Nat.le_refl _) _
            have hain : AIn (((((w6).setCell ⟨w3.heap.size, 0, none⟩ (.int .i64 3)).setCell ⟨w3.heap.size, 1, none⟩ (.slice none 0 0)).setCell ⟨w3.heap.size, 2, none⟩ (str q)).setCell ⟨w3.heap.size, 3, none⟩ (.int .i64 0)) (fun b => w.heap.size ≤ b ∧ some b ≠ (Value.slice A5 k c5).ownBlock) ⟨3, [], q, 0⟩ [.int .i64 3, .slice none 0 0, str q, .int .i64 0] := ain_bare _ rfl (by simp; omega) (by simp)
            obtain ⟨v7, w7, hrun7, has7, hb7⟩ := acts_more (Hb3.out.trans (hb6.mono Hb3.out.size)) (Has3.out.below hb6) ⟨3, [], q, 0⟩ _ hain #[.int .i64 3, .slice none 0 0, str q, .int .i64 0] rfl (by have := Hal.out; omega)
            rw [hsz6] at hrun7
            clear hsz6
            have Hrun7 := Lib.hid hrun7
            have Has7 := Lib.hid has7
            have Hb7 := Lib.hid hb7
            have Hok7 : Hid (OkAc ⟨3, [], q, 0⟩) := Lib.hid (by exact ⟨.inr ⟨.inr (.inl rfl), rfl⟩, hql, by simp, by simp⟩)
            clear hb6 hain hrun7 has7 hb7
            go_wp2_with (first | (at_builtin; refine rw_app rfl _ _ _ rfl _ _ (by rfl) (by rfl) Hrun7.out ?_; clear Hrun7) | fail)
            go_roundg (lim - (k + 1))
            case measure => have := Hgk.out; omega
            case rel =>
              refine ⟨k + 1, acs ++ [⟨3, [], q, 0⟩], by go_num, by omega, by omega, by omega, by have := Hal.out; simp; omega, fun y hy => ?_, Has7.out, Hb7.out⟩
              rcases List.mem_append.1 hy with hy | hy
              · exact Hok.out y hy
              · simp at hy; subst hy; exact Hok7.out
          · by_cases x6 : x = 6
            · subst x6
              have hsz6 : (((((W5).setCell ⟨w3.heap.size, 0, none⟩ (.int .i64 4)).setCell ⟨w3.heap.size, 1, none⟩ (.slice none 0 0)).setCell ⟨w3.heap.size, 2, none⟩ (.string ⟨#[]⟩)).setCell ⟨w3.heap.size, 3, none⟩ (.int .i64 0)).heap.size = W5.heap.size := by simp [World.setCell]
              have hb6 : Below w3.heap.size w3 (((((W5).setCell ⟨w3.heap.size, 0, none⟩ (.int .i64 4)).setCell ⟨w3.heap.size, 1, none⟩ (.slice none 0 0)).setCell ⟨w3.heap.size, 2, none⟩ (.string ⟨#[]⟩)).setCell ⟨w3.heap.size, 3, none⟩ (.int .i64 0)) := ((((Hb35.out).setCell (p := ⟨w3.heap.size, 0, none⟩) (Nat.le_refl _) _).setCell (p := ⟨w3.heap.size, 1, none⟩) (Nat.le_refl _) _).setCell (p := ⟨w3.heap.size, 2, none⟩) (Nat.le_refl _) _).setCell (p := ⟨w3.heap.size, 3, none⟩) (Nat.le_refl _) _
              have hain : AIn (((((W5).setCell ⟨w3.heap.size, 0, none⟩ (.int .i64 4)).setCell ⟨w3.heap.size, 1, none⟩ (.slice none 0 0)).setCell ⟨w3.heap.size, 2, none⟩ (.string ⟨#[]⟩)).setCell ⟨w3.heap.size, 3, none⟩ (.int .i64 0)) (fun b => w.heap.size ≤ b ∧ some b ≠ (Value.slice A5 k c5).ownBlock) ⟨4, [], [], 0⟩ [.int .i64 4, .slice none 0 0, .string ⟨#[]⟩, .int .i64 0] := ain_bare ⟨4, [], [], 0⟩ rfl (by simp) (by simp)
              obtain ⟨v7, w7, hrun7, has7, hb7⟩ := acts_more (Hb3.out.trans (hb6.mono Hb3.out.size)) (Has3.out.below hb6) ⟨4, [], [], 0⟩ _ hain #[.int .i64 4, .slice none 0 0, .string ⟨#[]⟩, .int .i64 0] rfl (by have := Hal.out; omega)
              rw [hsz6] at hrun7
              clear hsz6
              have Hrun7 := Lib.hid hrun7
              have Has7 := Lib.hid has7
              have Hb7 := Lib.hid hb7
              have Hok7 : Hid (OkAc ⟨4, [], [], 0⟩) := Lib.hid (by exact ⟨.inr ⟨.inr (.inr rfl), rfl⟩, by simp, by simp, by simp⟩)
              clear hb6 hain hrun7 has7 hb7
              go_wp2_with (first | (at_builtin; refine rw_app rfl _ _ _ rfl _ _ (by rfl) (by rfl) Hrun7.out ?_; clear Hrun7) | fail)
              go_roundg (lim - (k + 1))
              case measure => have := Hgk.out; omega
              case rel =>
                refine ⟨k + 1, acs ++ [⟨4, [], [], 0⟩], by go_num, by omega, by omega, by omega, by have := Hal.out; simp; omega, fun y hy => ?_, Has7.out, Hb7.out⟩
                rcases List.mem_append.1 hy with hy | hy
                · exact Hok.out y hy
                · simp at hy; subst hy; exact Hok7.out
            · by_cases x7 : x = 7
              · subst x7
                have hq0 := Int.emod_nonneg m (show (40 : Int) ≠ 0 by decide)
                have hq1 := Int.emod_lt_of_pos m (show (0 : Int) < 40 by decide)
                go_wp2_with fail
                refine (picked_any m 40 _ (by decide) (by decide)).mono ?_
                rintro e w6 ⟨rfl, rfl⟩
                generalize m % 40 = q at *
                have hsz6 : (((W5).setCell ⟨w3.heap.size, 0, none⟩ (.int .i64 5)).setCell ⟨w3.heap.size, 3, none⟩ (.int .i64 q)).heap.size = W5.heap.size := by simp [World.setCell]
                have hb6 : Below w3.heap.size w3 (((W5).setCell ⟨w3.heap.size, 0, none⟩ (.int .i64 5)).setCell ⟨w3.heap.size, 3, none⟩ (.int .i64 q)) := ((Hb35.out).setCell (p := ⟨w3.heap.size, 0, none⟩) (Nat.le_refl _) _).setCell (p := ⟨w3.heap.size, 3, none⟩) (Nat.le_refl _) _
                have hain : AIn (((W5).setCell ⟨w3.heap.size, 0, none⟩ (.int .i64 5)).setCell ⟨w3.heap.size, 3, none⟩ (.int .i64 q)) (fun b => w.heap.size ≤ b ∧ some b ≠ (Value.slice A5 k c5).ownBlock) ⟨5, cs ++ [tv], [], q⟩ [.int .i64 5, .slice A3 m3 c3, .string ⟨#[]⟩, .int .i64 q] := ⟨A3, c3, by rw [Hl3.out]; rfl, HRow.out hb6, HShR.out, by have := Hok2.out.2.1; show (cs ++ [tv]).length ≤ _; omega, by simp, by show _ ≤ q; omega, by show q ≤ _; omega⟩
                obtain ⟨v7, w7, hrun7, has7, hb7⟩ := acts_more (Hb3.out.trans (hb6.mono Hb3.out.size)) (Has3.out.below hb6) ⟨5, cs ++ [tv], [], q⟩ _ hain #[.int .i64 5, .slice A3 m3 c3, .string ⟨#[]⟩, .int .i64 q] rfl (by have := Hal.out; omega)
                rw [hsz6] at hrun7
                clear hsz6
                have Hrun7 := Lib.hid hrun7
                have Has7 := Lib.hid has7
                have Hb7 := Lib.hid hb7
                have Hok7 : Hid (OkAc ⟨5, cs ++ [tv], [], q⟩) := Lib.hid (by exact ⟨.inl ⟨.inr rfl, Hok2.out⟩, by simp, hq0, hq1⟩)
                clear hb6 hain hrun7 has7 hb7
                go_wp2_with (first | (at_builtin; refine rw_app rfl _ _ _ rfl _ _ (by rfl) (by rfl) Hrun7.out ?_; clear Hrun7) | fail)
                go_roundg (lim - (k + 1))
                case measure => have := Hgk.out; omega
                case rel =>
                  refine ⟨k + 1, acs ++ [⟨5, cs ++ [tv], [], q⟩], by go_num, by omega, by omega, by omega, by have := Hal.out; simp; omega, fun y hy => ?_, Has7.out, Hb7.out⟩
                  rcases List.mem_append.1 hy with hy | hy
                  · exact Hok.out y hy
                  · simp at hy; subst hy; exact Hok7.out
              · by_cases x8 : x = 8
                · subst x8
                  have hq0 := Int.emod_nonneg m (show (40 : Int) ≠ 0 by decide)
                  have hq1 := Int.emod_lt_of_pos m (show (0 : Int) < 40 by decide)
                  go_wp2_with fail
                  refine (picked_any m 40 _ (by decide) (by decide)).mono ?_
                  rintro e w6 ⟨rfl, rfl⟩
                  generalize m % 40 = q at *
                  have hsz6 : (((W5).setCell ⟨w3.heap.size, 0, none⟩ (.int .i64 5)).setCell ⟨w3.heap.size, 3, none⟩ (.int .i64 q)).heap.size = W5.heap.size := by simp [World.setCell]
                  have hb6 : Below w3.heap.size w3 (((W5).setCell ⟨w3.heap.size, 0, none⟩ (.int .i64 5)).setCell ⟨w3.heap.size, 3, none⟩ (.int .i64 q)) := ((Hb35.out).setCell (p := ⟨w3.heap.size, 0, none⟩) (Nat.le_refl _) _).setCell (p := ⟨w3.heap.size, 3, none⟩) (Nat.le_refl _) _
                  have hain : AIn (((W5).setCell ⟨w3.heap.size, 0, none⟩ (.int .i64 5)).setCell ⟨w3.heap.size, 3, none⟩ (.int .i64 q)) (fun b => w.heap.size ≤ b ∧ some b ≠ (Value.slice A5 k c5).ownBlock) ⟨5, cs ++ [tv], [], q⟩ [.int .i64 5, .slice A3 m3 c3, .string ⟨#[]⟩, .int .i64 q] := ⟨A3, c3, by rw [Hl3.out]; rfl, HRow.out hb6, HShR.out, by have := Hok2.out.2.1; show (cs ++ [tv]).length ≤ _; omega, by simp, by show _ ≤ q; omega, by show q ≤ _; omega⟩
                  obtain ⟨v7, w7, hrun7, has7, hb7⟩ := acts_more (Hb3.out.trans (hb6.mono Hb3.out.size)) (Has3.out.below hb6) ⟨5, cs ++ [tv], [], q⟩ _ hain #[.int .i64 5, .slice A3 m3 c3, .string ⟨#[]⟩, .int .i64 q] rfl (by have := Hal.out; omega)
                  rw [hsz6] at hrun7
                  clear hsz6
                  have Hrun7 := Lib.hid hrun7
                  have Has7 := Lib.hid has7
                  have Hb7 := Lib.hid hb7
                  have Hok7 : Hid (OkAc ⟨5, cs ++ [tv], [], q⟩) := Lib.hid (by exact ⟨.inl ⟨.inr rfl, Hok2.out⟩, by simp, hq0, hq1⟩)
                  clear hb6 hain hrun7 has7 hb7
                  go_wp2_with (first | (at_builtin; refine rw_app rfl _ _ _ rfl _ _ (by rfl) (by rfl) Hrun7.out ?_; clear Hrun7) | fail)
                  go_roundg (lim - (k + 1))
                  case measure => have := Hgk.out; omega
                  case rel =>
                    refine ⟨k + 1, acs ++ [⟨5, cs ++ [tv], [], q⟩], by go_num, by omega, by omega, by omega, by have := Hal.out; simp; omega, fun y hy => ?_, Has7.out, Hb7.out⟩
                    rcases List.mem_append.1 hy with hy | hy
                    · exact Hok.out y hy
                    · simp at hy; subst hy; exact Hok7.out
                · skip
                  have hb6 : Below w3.heap.size w3 (W5) := Hb35.out
                  have hain : AIn (W5) (fun b => w.heap.size ≤ b ∧ some b ≠ (Value.slice A5 k c5).ownBlock) ⟨1, cs ++ [tv], [], 0⟩ [.int .i64 1, .slice A3 m3 c3, .string ⟨#[]⟩, .int .i64 0] := ⟨A3, c3, by rw [Hl3.out]; rfl, HRow.out hb6, HShR.out, by have := Hok2.out.2.1; show (cs ++ [tv]).length ≤ _; omega, by simp, by simp⟩
                  obtain ⟨v7, w7, hrun7, has7, hb7⟩ := acts_more (Hb3.out.trans (hb6.mono Hb3.out.size)) (Has3.out.below hb6) ⟨1, cs ++ [tv], [], 0⟩ _ hain #[.int .i64 1, .slice A3 m3 c3, .string ⟨#[]⟩, .int .i64 0] rfl (by have := Hal.out; omega)
                  have Hrun7 := Lib.hid hrun7
                  have Has7 := Lib.hid has7
                  have Hb7 := Lib.hid hb7
                  have Hok7 : Hid (OkAc ⟨1, cs ++ [tv], [], 0⟩) := Lib.hid (by exact ⟨.inl ⟨.inl rfl, Hok2.out⟩, by simp, by simp, by simp⟩)
                  clear hb6 hain hrun7 has7 hb7
                  go_wp2_with (first | (at_builtin; refine rw_app rfl _ _ _ rfl _ _ (by rfl) (by rfl) Hrun7.out ?_; clear Hrun7) | fail)
                  go_roundg (lim - (k + 1))
                  case measure => have := Hgk.out; omega
                  case rel =>
                    refine ⟨k + 1, acs ++ [⟨1, cs ++ [tv], [], 0⟩], by go_num, by omega, by omega, by omega, by have := Hal.out; simp; omega, fun y hy => ?_, Has7.out, Hb7.out⟩
                    rcases List.mem_append.1 hy with hy | hy
                    · exact Hok.out y hy
                    · simp at hy; subst hy; exact Hok7.out
      · skip
        have hltj : ¬ (k : Int) < (lim : Int) := by omega
        have Hkm := Lib.hid (show k = min n lim by omega)
        go_wp2_with fail
        go_ret
        exact ⟨_, rfl, acs, Hal.out.trans Hkm.out, Hok.out, Has.out, Hbe.out⟩
    · skip
      have hlti : ¬ (k : Int) < (n : Int) := by omega
      have Hkm := Lib.hid (show k = min n lim by omega)
      go_wp2_with fail
      go_ret
      exact ⟨_, rfl, acs, Hal.out.trans Hkm.out, Hok.out, Has.out, Hbe.out⟩
end Go.Proofs.Ytploicbiapjfdaa

/- The store: a list of acts and one act more, copied; the bytes of a file, copied. -/
namespace Go.Proofs.Ytploicbiapjfdaa
set_option linter.unusedVariables false
set_option linter.unusedSimpArgs false
open Go.RowKit
/-- A list of acts copied, and one act more behind the copy: the two runs. -/
theorem acts_two {W : World} {B n c : Nat} {A : Option Addr} {acs : List Ac} (h : AsIn W B A n c acs) (hB : B ≤ W.heap.size) (hn : n ≤ 1000) (a : Ac) (cs : List Value) (ha : AIn W (fun b => b < W.heap.size) a cs) (ca : Array Value) (hca : ca = cs.toArray) :
    ∃ A1 c1 W1 A2 c2 W2, (Builtin.append_ #[22, 22] 22 #[.slice none 0 0, .slice A n c]).run Try.prog W = .ok (.slice A1 n c1) W1 ∧
      (Builtin.append_ #[22, 22] 22 #[.slice A1 n c1, .slice (some ⟨W1.heap.size, 0, none⟩) 1 1]).run Try.prog (W1.alloc (.cells ca 44)) = .ok (.slice A2 (n + 1) c2) W2 ∧
      AsIn W2 W2.heap.size A2 (n + 1) c2 (acs ++ [a]) ∧ Below W.heap.size W W2 ∧ Below W.heap.size W W1 := by
  have hln := h.1
  obtain ⟨v1, W1, hrun1, has1, hb1⟩ := acts_copy h hB (by omega)
  have hS : ∀ b, b < W.heap.size → some b ≠ v1.ownBlock := fun b hb e => by obtain ⟨pc, ho, _⟩ := has1; have := (ho.lt b e.symm).1; omega
  have ha1 : AIn W1 (fun b => b < W.heap.size) a cs := ha.kept fun p _ hp => hb1.cell hp
  obtain ⟨v2, W2, hrun2, has2, hb2, _, _⟩ := acts_put has1 hS a cs ha1 ca hca (by omega) hb1.size
  obtain ⟨A2, c2, rfl, hin2⟩ := has2.form
  obtain ⟨A1, c1, rfl, -⟩ := has1.form
  have hl2 : (acs ++ [a]).length = n + 1 := by simp; omega
  rw [hl2] at hin2 hrun2
  rw [hln] at hrun1 hrun2
  exact ⟨A1, c1, W1, A2, c2, W2, hrun1, hrun2, hin2, hb2 _ _ hb1 (Nat.le_refl _) hb1.size, hb1⟩
theorem byte_copy {W : World} {S : Nat → Prop} {n c : Nat} {A : Option Addr} {l : List UInt8} (h : BIn W S A n c l) (hn : n ≤ 1048576) :
    ∃ A1 c1 W1, (Builtin.append_ #[24, 24] 24 #[.slice none 0 0, .slice A n c]).run Try.prog W = .ok (.slice A1 n c1) W1 ∧ Holds W1 W1.heap.size 1 A1 n (l.map bv) ∧ n ≤ c1 ∧ Below W.heap.size W W1 := by
  obtain ⟨i0, hi0, hz0, hz1, hz2⟩ := info_parts info_u8
  obtain ⟨h1, h2, h3, h4⟩ := h.mono (S' := fun b => b < W.heap.size) fun b hb _ => hb
  obtain ⟨v', wf, k1, k2, k3, k4⟩ := run_app_all (P := Try.prog) W 24 24 W.heap.size 5 i0 _ 1 1 Try.underlying24 hi0 hz0 hz1 hz2 rfl (by decide) (.slice none 0 0) 0 [] (World.ownsRow_nil _ _ _ _) W.heap.size A n c (l.map bv) h3 h4 (bv_one _) (by omega) (by decide) (Nat.le_refl _)
  have hb := below_own (Below.refl W.heap.size W) k3 (World.ownsRow_nil W W.heap.size 5 1) (Nat.le_refl _) (Nat.le_refl _)
  rw [Nat.zero_add] at k2
  obtain ⟨A1, c1, rfl, hA⟩ := own_form k2
  refine ⟨A1, c1, wf, k1, Holds.own (by simpa using k2), ?_, hb⟩
  rcases k2.2 with ⟨hv, hn0⟩ | ⟨g, cap, cur, hv, _, _, hnc, _⟩
  · omega
  · injection hv with _ _ hc; omega
def acPk : Ac := ⟨4, [], [], 0⟩
theorem tab_pk (acs : List Ac) : tabOf (acs ++ [acPk]) = tabOf acs := by unfold tabOf; rw [actsR_snoc, act_pack rfl]
def filOfA (acs : List Ac) : List UInt8 := (actsR st0 acs).2.2
theorem fil_pk (acs : List Ac) : filOfA (acs ++ [acPk]) = pkF (tabOf acs) := by unfold filOfA; rw [actsR_snoc, act_pack rfl]; rfl
theorem rec_fil (acs : List Ac) : recoverR (filOfA acs) = (tabOf acs, (filOfA acs).length, 0) := by
  obtain ⟨css, h⟩ := Kp.acts acs kp0
  exact h.recover
theorem fil_len (acs : List Ac) : (filOfA acs).length ≤ 1200 := by
  obtain ⟨css, h⟩ := Kp.acts acs kp0
  exact h.size
end Go.Proofs.Ytploicbiapjfdaa
