/- Joined texts: SlPutP, SlNz. -/
import Derived.Test.YtbdbcffnjibjoaaGreatDoorSlWpW
import Derived.Test.YtbdbcffnjibjoaaGreatDoorBunT
import Derived.Test.YtbdbcffnjibjoaaGreatDoorBunL
import Derived.Test.YtbdbcffnjibjoaaGreatDoorBunJ
/- Put of the reference, in parts: its mathematics. -/
namespace Go.Proofs.YtbdbcffnjibjoaaGreatDoor
set_option linter.unusedVariables false
set_option linter.unusedSimpArgs false
open Go.RowKit

theorem orE_fine {o : Option JV} (h : ∀ p, o = some p → Fine p) : Fine (orE o) := by
  cases o with
  | none =>
    show Fine (.mk 7 0 [] [] [])
    unfold Fine
    exact ⟨by decide, by unfold Fines; trivial⟩
  | some p => exact h p rfl
/-- The signatures, and those of the user. -/
def allJ (v : JV) : JV := orE (getAt [sigK] v)
def mineJ (v : JV) (u : List UInt8) : JV := orE (getAt [u] (allJ v))
theorem allJ_fine {v : JV} (h : Fine v) : Fine (allJ v) := orE_fine fun _ hp => getAt_fine h hp
theorem mineJ_fine {v : JV} {u : List UInt8} (h : Fine v) : Fine (mineJ v u) := orE_fine fun _ hp => getAt_fine (allJ_fine h) hp
theorem blk_parts {v : JV} {u k : List UInt8} (h7 : v.kind = 7) : blockedP [sigK, u, k] v = (decide ((allJ v).kind ≠ 7) || decide ((mineJ v u).kind ≠ 7)) := by
  unfold blockedP
  have h0 : badAt (([sigK, u, k] : List (List UInt8)).take 0) v = false := by simp [badAt, getAt, h7]
  rw [h0]
  simp only [List.take_succ_cons, List.take_zero, Bool.false_or]
  unfold badAt allJ mineJ allJ
  rw [getAt_cons sigK [u] v]
  generalize getAt [sigK] v = o1
  cases o1 with
  | none => rfl
  | some p =>
    show (p.kind != 7 || match getAt [u] p with | some p => p.kind != 7 | none => false) = (decide (p.kind ≠ 7) || decide ((orE (getAt [u] p)).kind ≠ 7))
    generalize getAt [u] p = o2
    cases o2 with
    | none =>
      show (p.kind != 7 || false) = (decide (p.kind ≠ 7) || false)
      simp [bne]
      rfl
    | some q =>
      show (p.kind != 7 || q.kind != 7) = (decide (p.kind ≠ 7) || decide (q.kind ≠ 7))
      simp [bne]
      rfl
theorem obj_form {v : JV} (hf : Fine v) (h7 : v.kind = 7) : v = .mk 7 0 [] v.keys v.parts ∧ v.keys.length = v.parts.length ∧ incr v.keys = true := by
  cases v with
  | mk kd n t ks ps =>
    obtain ⟨_, h2, _, h4, _⟩ := fine_obj hf
    have h7' : kd = 7 := h7
    obtain ⟨h5, h6, h8⟩ := h4 h7'
    subst h7' h6 h8
    exact ⟨rfl, h5, h2⟩
theorem put_one_key {v : JV} (hf : Fine v) (h7 : v.kind = 7) (k : List UInt8) (p : JV) : JV.mk 7 0 [] (wpR k p false v.keys v.parts).1 (wpR k p false v.keys v.parts).2 = putAt [k] v p := by
  obtain ⟨h1, h2, h3⟩ := obj_form hf h7
  rw [← wpR_put k p _ _ h2 h3, ← h1]
theorem putJ_parts {v : JV} {u k : List UInt8} {e : JV} (hf : Fine v) (h7 : v.kind = 7) (ha : (allJ v).kind = 7) : putAt [sigK, u, k] v e = putAt [sigK] v (putAt [u] (allJ v) (putAt [k] (mineJ v u) e)) := by
  obtain ⟨_, h2, h3⟩ := obj_form hf h7
  obtain ⟨_, h5, h6⟩ := obj_form (allJ_fine hf) ha
  rw [put_cons h2 h3]
  show putAt [sigK] v (putAt [u, k] (allJ v) e) = _
  rw [put_cons h5 h6]
  rfl
theorem kl_count {v : JV} (hf : Fine v) (h7 : v.kind = 7) : v.keys.length ≤ count v := by
  cases v with
  | mk kd n t ks ps =>
    obtain ⟨_, h2, _⟩ := obj_form hf h7
    have h2' : ks.length = ps.length := h2
    have := len_counts ps
    show ks.length ≤ count (.mk kd n t ks ps)
    simp only [count]
    omega
end Go.Proofs.YtbdbcffnjibjoaaGreatDoor

/- A value none of whose parts has kind 0 does not lie in a box of zeros, but for an empty text: a store to that box leaves it. -/
namespace Go.Proofs.YtbdbcffnjibjoaaGreatDoor
set_option linter.unusedVariables false
set_option linter.unusedSimpArgs false
open Go.RowKit
mutual
def NZ : JV → Prop
  | .mk k _ _ _ ps => k ≠ 0 ∧ NZs ps
def NZs : List JV → Prop
  | [] => True
  | p :: r => NZ p ∧ NZs r
end
theorem NZs.mem : ∀ {ps : List JV}, (∀ p ∈ ps, NZ p) → NZs ps
  | [], _ => by unfold NZs; trivial
  | p :: r, h => by unfold NZs; exact ⟨h p (by simp), NZs.mem fun q hq => h q (by simp [hq])⟩
theorem NZs.of : ∀ {ps : List JV}, NZs ps → ∀ p ∈ ps, NZ p
  | [], _, p, hp => by simp at hp
  | q :: r, h, p, hp => by
    unfold NZs at h
    rcases List.mem_cons.1 hp with rfl | hp
    · exact h.1
    · exact NZs.of h.2 p hp
mutual
theorem Fine.nz : ∀ {v : JV}, Fine v → NZ v
  | .mk k n t ks ps, h => by
    have h' := h
    unfold Fine at h'
    unfold NZ
    refine ⟨?_, Fines.nz h'.2⟩
    intro h0
    subst h0
    have := h'.1
    unfold alone at this
    rw [if_neg (by decide), if_pos (.inl (show (0 : Int) < 1 by decide))] at this
    cases this
theorem Fines.nz : ∀ {ps : List JV}, Fines ps → NZs ps
  | [], _ => by unfold NZs; trivial
  | p :: r, h => by
    unfold Fines at h
    unfold NZs
    exact ⟨Fine.nz h.1, Fines.nz h.2⟩
end
theorem wpR_nz (k : List UInt8) (p : JV) (hp : NZ p) : ∀ (b : Bool) (ks : List (List UInt8)) (ps : List JV), (∀ q ∈ ps, NZ q) → ∀ q ∈ (wpR k p b ks ps).2, NZ q
  | b, [], ps, h, q, hq => by
    rw [wpR_end] at hq
    cases b
    · simp at hq; subst hq; exact hp
    · simp at hq
  | b, y :: ks, [], h, q, hq => by
    cases b
    · simp [wpR] at hq; subst hq; exact hp
    · simp [wpR] at hq
  | b, y :: ks, r :: ps, h, q, hq => by
    rw [wpR] at hq
    have ih := wpR_nz k p hp (b || !Op.bytesLess y k) ks ps (fun x hx => h x (by simp [hx])) q
    have hr := h r (by simp)
    by_cases hy : y = k
    · rw [if_pos hy] at hq
      by_cases hc : b = false ∧ Op.bytesLess y k = false
      · rw [if_pos hc] at hq
        rcases List.mem_cons.1 hq with h1 | h1
        · subst h1; exact hp
        · exact ih h1
      · rw [if_neg hc] at hq
        exact ih hq
    · rw [if_neg hy] at hq
      by_cases hc : b = false ∧ Op.bytesLess y k = false
      · rw [if_pos hc] at hq
        rcases List.mem_cons.1 hq with h1 | h1
        · subst h1; exact hp
        · rcases List.mem_cons.1 h1 with h2 | h2
          · subst h2; exact hr
          · exact ih h2
      · rw [if_neg hc] at hq
        rcases List.mem_cons.1 hq with h2 | h2
        · subst h2; exact hr
        · exact ih h2
/-- The box of zeros g has been filled, its text staying empty. -/
def Filled (g : Nat) (w w' : World) : Prop := (∀ i u, w.cell? ⟨g, i, none⟩ = some u → (u = .int .i64 0 ∨ u = .slice none 0 0 ∨ (u = str [] ∧ w'.cell? ⟨g, i, none⟩ = some u))) ∧ ∀ p : Addr, p.block ≠ g → w'.cell? p = w.cell? p
mutual
theorem VIn.filled {w w' : World} {B g : Nat} (hf : Filled g w w') : ∀ (v : JV) (cs : List Value), NZ v → VIn w B v cs → VIn w' B v cs
  | .mk k n t ks ps, cs, hz, h => by
    unfold NZ at hz
    unfold VIn at h ⊢
    obtain ⟨Ak, ck, Ap, cp, pc, h1, h2, h3, h4, h5, h6, h7, h8, h9, h10, h11, h12⟩ := h
    refine ⟨Ak, ck, Ap, cp, pc, h1, h2, h3, h4, h5, h6, h7, h8, h9, ?_, ?_, PIn.filled hf ps pc hz.2 h12⟩
    · refine ⟨h10.1, fun hn => ?_⟩
      obtain ⟨b, off, e, hb, hc⟩ := h10.2 hn
      refine ⟨b, off, e, hb, fun j u hu => ?_⟩
      have h0 := hc j u hu
      by_cases hbg : b = g
      · subst hbg
        rcases hf.1 _ _ h0 with rfl | rfl | ⟨rfl, h⟩
        · rw [List.getElem?_map] at hu
          cases hk : ks[j]? with
          | none => rw [hk] at hu; cases hu
          | some s => rw [hk] at hu; simp [str] at hu
        · rw [List.getElem?_map] at hu
          cases hk : ks[j]? with
          | none => rw [hk] at hu; cases hu
          | some s => rw [hk] at hu; simp [str] at hu
        · exact h
      · rw [hf.2 ⟨b, off + j, none⟩ hbg]; exact h0
    · refine ⟨h11.1, fun hn => ?_⟩
      obtain ⟨b, off, e, hb, hc⟩ := h11.2 hn
      refine ⟨b, off, e, hb, fun j u hu => ?_⟩
      have hbg : b ≠ g := by
        intro hbg
        subst hbg
        cases ps with
        | nil => simp at hn
        | cons p r =>
          unfold NZs at hz
          unfold PIn at h12
          obtain ⟨c, rest, e1, hv, _⟩ := h12
          cases p with
          | mk k1 n1 t1 ks1 ps1 =>
            unfold VIn at hv
            obtain ⟨_, _, _, _, _, e2, _⟩ := hv
            have h0 := hc 0 (.int .i64 k1) (by rw [e1, e2]; rfl)
            have hk1 : k1 ≠ 0 := by have := hz.2.1; unfold NZ at this; exact this.1
            rcases hf.1 _ _ h0 with h | h | ⟨h, _⟩
            · injection h with _ h; exact hk1 h
            · cases h
            · cases h
      rw [hf.2 ⟨b, off + j, none⟩ hbg]; exact hc j u hu
theorem PIn.filled {w w' : World} {B g : Nat} (hf : Filled g w w') : ∀ (ps : List JV) (pc : List Value), NZs ps → PIn w B ps pc → PIn w' B ps pc
  | [], pc, _, h => by unfold PIn at h ⊢; exact h
  | p :: r, pc, hz, h => by
    unfold NZs at hz
    unfold PIn at h ⊢
    obtain ⟨c, rest, h1, h2, h3⟩ := h
    exact ⟨c, rest, h1, VIn.filled hf p c hz.1 h2, PIn.filled hf r rest hz.2 h3⟩
end
theorem filled_set5 {w : World} {g : Nat} (h : Blk w g 25 #[.int .i64 0, .int .i64 0, str [], .slice none 0 0, .slice none 0 0]) (b0 b1 b3 b4 : Value) :
    Filled g w (((((w.setCell ⟨g, 0, none⟩ b0).setCell ⟨g, 1, none⟩ b1).setCell ⟨g, 2, none⟩ (str [])).setCell ⟨g, 3, none⟩ b3).setCell ⟨g, 4, none⟩ b4) := by
  refine ⟨fun i u hu => ?_, fun p hp => ?_⟩
  · rw [h.cell i] at hu
    match i, hu with
    | 0, hu => simp at hu; exact .inl hu.symm
    | 1, hu => simp at hu; exact .inl hu.symm
    | 2, hu => simp at hu; exact .inr (.inr ⟨hu.symm, by rw [← hu]; exact (sl_set5 h b0 b1 (str []) b3 b4).cell 2⟩)
    | 3, hu => simp at hu; exact .inr (.inl hu.symm)
    | 4, hu => simp at hu; exact .inr (.inl hu.symm)
    | i + 5, hu => simp at hu
  · obtain ⟨b, o, s⟩ := p
    have hb : b ≠ g := hp
    exact World.cell?_of_block (sl_block5 hb b0 b1 (str []) b3 b4)
theorem getAt_count : ∀ {ks : List (List UInt8)} {v p : JV}, getAt ks v = some p → count p ≤ count v
  | [], v, p, h => by simp [getAt] at h; subst h; exact Nat.le_refl _
  | k :: r, .mk kd n t ks ps, p, h => by
    rw [getAt] at h
    by_cases hm : k ∈ ks
    · rw [if_pos hm] at h
      cases hp : ps[place ks k]? with
      | none => rw [hp] at h; cases h
      | some q =>
        rw [hp] at h
        have h1 := getAt_count h
        obtain ⟨hi, rfl⟩ := List.getElem?_eq_some_iff.1 hp
        have h2 := count_at ps _ hi
        simp only [count]
        omega
    · rw [if_neg hm] at h; cases h
theorem orE_count {o : Option JV} {m : Nat} (hm : 1 ≤ m) (h : ∀ p, o = some p → count p ≤ m) : count (orE o) ≤ m := by
  cases o with
  | none => show count (.mk 7 0 [] [] []) ≤ m; simp [count, counts]; omega
  | some p => exact h p rfl
theorem allJ_count (v : JV) : count (allJ v) ≤ count v := orE_count (by cases v; simp [count]) fun _ hp => getAt_count hp
theorem mineJ_count (v : JV) (u : List UInt8) : count (mineJ v u) ≤ count v := Nat.le_trans (orE_count (by generalize allJ v = a; cases a; simp [count]) fun _ hp => getAt_count hp) (allJ_count v)
theorem sigV_in (r s : Nat) (W : World) (B : Nat) : VIn W B (sigV r s) [.int .i64 5, .int .i64 0, str (enc (sigB r s)), .slice none 0 0, .slice none 0 0] := by
  unfold sigV VIn
  refine ⟨none, 0, none, 0, [], rfl, by omega, by omega, ?_, by simp, by simp, by simp, by simp, by simp, Holds.empty, Holds.empty, by unfold PIn; rfl⟩
  rw [enc_length]; simp [sigB]
/-- The three steps of putting the signature in. -/
def mine1 (v : JV) (u k : List UInt8) (r s : Nat) : JV := .mk 7 0 [] (wpR k (sigV r s) false (mineJ v u).keys (mineJ v u).parts).1 (wpR k (sigV r s) false (mineJ v u).keys (mineJ v u).parts).2
def all2 (v : JV) (u k : List UInt8) (r s : Nat) : JV := .mk 7 0 [] (wpR u (mine1 v u k r s) false (allJ v).keys (allJ v).parts).1 (wpR u (mine1 v u k r s) false (allJ v).keys (allJ v).parts).2
def out3 (v : JV) (u k : List UInt8) (r s : Nat) : JV := .mk 7 0 [] (wpR sigK (all2 v u k r s) false v.keys v.parts).1 (wpR sigK (all2 v u k r s) false v.keys v.parts).2
theorem parts_nz {v : JV} (h : Fine v) : ∀ q ∈ v.parts, NZ q := by
  cases v with
  | mk kd n t ks ps => exact NZs.of (Fines.nz (fine_obj h).2.2.1)
theorem mine1_nz {v : JV} {u k : List UInt8} {r s : Nat} (hf : Fine v) : NZ (mine1 v u k r s) := by
  unfold mine1 NZ
  refine ⟨by decide, NZs.mem (wpR_nz k (sigV r s) ?_ _ _ _ (parts_nz (mineJ_fine hf)))⟩
  unfold sigV NZ NZs
  exact ⟨by decide, trivial⟩
theorem all2_nz {v : JV} {u k : List UInt8} {r s : Nat} (hf : Fine v) : NZ (all2 v u k r s) := by
  unfold all2 NZ
  exact ⟨by decide, NZs.mem (wpR_nz u _ (mine1_nz hf) _ _ _ (parts_nz (allJ_fine hf)))⟩
theorem out3_nz {v : JV} {u k : List UInt8} {r s : Nat} (hf : Fine v) : NZ (out3 v u k r s) := by
  unfold out3 NZ
  exact ⟨by decide, NZs.mem (wpR_nz sigK _ (all2_nz hf) _ _ _ (parts_nz hf))⟩
theorem out3_eq {v : JV} {u k : List UInt8} {r s : Nat} (hf : Fine v) (h7 : v.kind = 7) (ha : (allJ v).kind = 7) (hm : (mineJ v u).kind = 7) : out3 v u k r s = putAt [sigK, u, k] v (sigV r s) := by
  rw [putJ_parts hf h7 ha]
  unfold out3 all2 mine1
  rw [put_one_key (mineJ_fine hf) hm, put_one_key (allJ_fine hf) ha, put_one_key hf h7]
theorem VIn.text {w : World} {B : Nat} {v : JV} {k n : Int} {t : List UInt8} {Ak : Option Addr} {nk ck : Nat} {Ap : Option Addr} {np cp : Nat} (h : VIn w B v [.int .i64 k, .int .i64 n, str t, .slice Ak nk ck, .slice Ap np cp]) : v.text = t := by
  cases v with
  | mk k' n' t' ks ps =>
    unfold VIn at h
    obtain ⟨_, _, _, _, _, e, _⟩ := h
    simp [str] at e
    exact e.2.2.1.symm
end Go.Proofs.YtbdbcffnjibjoaaGreatDoor
