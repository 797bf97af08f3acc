/- A text of a value with blanks, and with the keys the other way round, is read as the value. Nothing of the program is named here. -/
import Derived.Test.YtbinoohmblkibaaDoorJSort
import Derived.Test.YtbinoohmblkibaaDoorJText
namespace Go.Proofs.YtbinoohmblkibaaDoor
set_option linter.unusedVariables false
set_option linter.unusedSimpArgs false

mutual
/-- The text of a value with the blanks g; nothing where a part has no text. -/
def sp (g : List UInt8) : JV → List UInt8
  | .mk k n t ks ps =>
    if k = 6 then 91 :: (spA g true ps ++ (g ++ [93]))
    else if k = 7 then (if ∀ x ∈ ks, checkN (.mk 5 0 x [] []) = 0 then 123 :: (spO g ks ps ++ (g ++ [125])) else [])
    else if checkN (.mk k n t ks ps) = 0 then jtext (.mk k n t ks ps) else []
def spA (g : List UInt8) : Bool → List JV → List UInt8
  | _, [] => []
  | f, p :: r => (if f then [] else 44 :: g) ++ (g ++ (sp g p ++ spA g false r))
def spO (g : List UInt8) : List (List UInt8) → List JV → List UInt8
  | _, [] => []
  | [], _ => []
  | k :: ks, p :: ps => spO g ks ps ++ ((if ps.isEmpty then [] else g ++ [44]) ++ (g ++ (quo k ++ (g ++ (58 :: (g ++ sp g p))))))
end
mutual
/-- All that stands in it has a text. -/
def Fit : JV → Prop
  | .mk k n t ks ps => (k ≠ 6 → k ≠ 7 → checkN (.mk k n t ks ps) = 0) ∧ (∀ x ∈ ks, checkN (.mk 5 0 x [] []) = 0) ∧ Fits ps
def Fits : List JV → Prop
  | [] => True
  | p :: r => Fit p ∧ Fits r
end
theorem fits_mem : ∀ {ps : List JV} {x : JV}, Fits ps → x ∈ ps → Fit x
  | [], x, _, h => by cases h
  | p :: ps, x, hf, h => by
    unfold Fits at hf
    rcases List.mem_cons.1 h with rfl | h
    · exact hf.1
    · exact fits_mem hf.2 h
theorem fits_of : ∀ {ps : List JV}, (∀ x ∈ ps, Fit x) → Fits ps
  | [], _ => by unfold Fits; trivial
  | p :: ps, h => by unfold Fits; exact ⟨h p (by simp), fits_of fun x hx => h x (by simp [hx])⟩

def Gap (g : List UInt8) : Prop := ∀ c ∈ g, isWs c = true
theorem skip_gap {g : List UInt8} (h : Gap g) (r : List UInt8) : skip (g ++ r) = skip r := by
  unfold skip
  induction g with
  | nil => rfl
  | cons c g ih =>
    rw [List.cons_append, List.dropWhile_cons, if_pos (h c (by simp))]
    exact ih fun x hx => h x (by simp [hx])
theorem ws_dig : ∀ c : UInt8, isWs c = true → isDig c = false := by
  intro c
  have : ∀ n : Fin 256, isWs (UInt8.ofNat n.val) = true → isDig (UInt8.ofNat n.val) = false := by decide +kernel
  have h := this ⟨c.toNat, c.toNat_lt⟩
  simpa using h
/-- No digit comes first. -/
def NoDig (r : List UInt8) : Prop := ∀ c q, r = c :: q → isDig c = false
theorem NoDig.cons {c : UInt8} {q : List UInt8} (h : isDig c = false) : NoDig (c :: q) := fun c' q' e => by injection e with e _; rw [← e]; exact h
theorem NoDig.gap {g r : List UInt8} (h : Gap g) (hr : NoDig r) : NoDig (g ++ r) := by
  cases g with
  | nil => exact hr
  | cons c g => exact NoDig.cons (ws_dig c (h c (by simp)))
theorem NoDig.nil : NoDig [] := fun c q h => by cases h

theorem numR_nodig (n : Int) (h0 : -9007199254740992 < n) (h1 : n < 9007199254740992) (r : List UInt8) (hr : NoDig r) : numR (Lib.itoa n ++ r) = some (n, r) := by
  by_cases hneg : n < 0
  · obtain ⟨u, rfl⟩ : ∃ u : Nat, n = -(u : Int) := ⟨n.natAbs, by omega⟩
    rw [Lib.itoa_neg u (by omega)]
    obtain ⟨c, q, hc, hc48⟩ := dec_head u (by omega)
    obtain ⟨ht, hd⟩ := takeWhile_all (Lib.decDigits u) r (dec_all u) hr
    rw [numR_eq (by simp) true (by simp) (Lib.decDigits u ++ r) (by simp), ht, hd, hc, if_neg (by simp; exact hc48), ← hc, digGo_dec u (by omega)]
    simp
  · obtain ⟨u, rfl⟩ : ∃ u : Nat, n = u := ⟨n.toNat, by omega⟩
    rw [Lib.itoa_nonneg]
    by_cases hu : u = 0
    · subst hu
      have : Lib.decDigits 0 = [48] := by rw [Lib.decDigits, dif_pos (by omega)]; rfl
      rw [this]
      simp [numR]
    · obtain ⟨c, q, hc, hc48⟩ := dec_head u (by omega)
      obtain ⟨ht, hd⟩ := takeWhile_all (Lib.decDigits u) r (dec_all u) hr
      have hdc : isDig c = true := dec_all u c (by rw [hc]; simp)
      have hc45 : c ≠ 45 := fun e => by subst e; revert hdc; decide
      have hh : (Lib.decDigits u ++ r).head? = some c := by rw [hc]; rfl
      rw [numR_eq (by rw [hh]; simpa using hc48) false (by rw [hh]; simpa using hc45) (Lib.decDigits u ++ r) (by simp), ht, hd, hc, if_neg (by simp; exact hc48), ← hc, digGo_dec u (by omega)]
      simp
/-- A value without parts, whatever blanks follow. -/
theorem pv_leaf (n : Nat) (k num : Int) (t : List UInt8) (ks : List (List UInt8)) (ps : List JV) (r : List UInt8) (hf : Fine (.mk k num t ks ps)) (h6 : k ≠ 6) (h7 : k ≠ 7) (hr : NoDig r) : pv (n + 1) (jtext (.mk k num t ks ps) ++ r) = some (.mk k num t ks ps, r) := by
  unfold Fine at hf
  obtain ⟨ha, hfs⟩ := hf
  obtain ⟨_, hk1, hk7, hobj, hn1, hn2, hu⟩ := alone_facts ha
  obtain ⟨u1, u2, u3, u4⟩ := unused_facts hu
  rcases (by omega : k = 1 ∨ k = 2 ∨ k = 3 ∨ k = 4 ∨ k = 5) with rfl | rfl | rfl | rfl | rfl
  · obtain rfl := u1 (by decide); obtain rfl := u2 (by decide); obtain rfl := u3 (by decide); obtain rfl := u4 (by decide) (by decide)
    have e : jtext (.mk 1 0 [] [] []) ++ r = 110 :: 117 :: 108 :: 108 :: r := by rw [jtext]; rfl
    rw [e, pv_null (by rfl)]; rfl
  · obtain rfl := u1 (by decide); obtain rfl := u2 (by decide); obtain rfl := u3 (by decide); obtain rfl := u4 (by decide) (by decide)
    have e : jtext (.mk 2 0 [] [] []) ++ r = 102 :: 97 :: 108 :: 115 :: 101 :: r := by rw [jtext]; rfl
    rw [e, pv_false (by rfl) (by rfl)]; rfl
  · obtain rfl := u1 (by decide); obtain rfl := u2 (by decide); obtain rfl := u3 (by decide); obtain rfl := u4 (by decide) (by decide)
    have e : jtext (.mk 3 0 [] [] []) ++ r = 116 :: 114 :: 117 :: 101 :: r := by rw [jtext]; rfl
    rw [e, pv_true (by rfl) (by rfl) (by rfl)]; rfl
  · obtain rfl := u2 (by decide); obtain rfl := u3 (by decide); obtain rfl := u4 (by decide) (by decide)
    have e : jtext (.mk 4 num [] [] []) = Lib.itoa num := by rw [jtext]; rfl
    obtain ⟨c, q, hc, hd⟩ := itoa_head num
    have hcs : c ≠ 110 ∧ c ≠ 102 ∧ c ≠ 116 ∧ c ≠ 34 ∧ c ≠ 91 ∧ c ≠ 123 ∧ isWs c = false := by
      rcases hd with rfl | hd
      · decide
      · refine ⟨?_, ?_, ?_, ?_, ?_, ?_, ?_⟩
        any_goals (rintro rfl; revert hd; decide)
        exact start_ws c (by simp [startC, hd])
    obtain ⟨c1, c2, c3, c4, c5, c6, c7⟩ := hcs
    have hcr : Lib.itoa num ++ r = c :: (q ++ r) := by rw [hc]; rfl
    have hsk : skip (Lib.itoa num ++ r) = Lib.itoa num ++ r := by rw [hcr]; exact skip_non c7
    have hh : (Lib.itoa num ++ r).head? = some c := by rw [hcr]; rfl
    rw [e, pv_num (by rw [hcr]; exact pre_head (Ne.symm c1)) (by rw [hcr]; exact pre_head (Ne.symm c2)) (by rw [hcr]; exact pre_head (Ne.symm c3)) (by rw [hcr]; exact pre_head (Ne.symm c4))
      (by rw [hsk, hh]; simpa using c5) (by rw [hsk, hh]; simpa using c6), hsk, numR_nodig num hn1 hn2 r hr]
    rfl
  · obtain rfl := u1 (by decide); obtain rfl := u3 (by decide); obtain rfl := u4 (by decide) (by decide)
    have e : jtext (.mk 5 0 t [] []) ++ r = 34 :: (t.flatMap esc ++ 34 :: r) := by rw [jtext]; simp [quo]
    rw [e, pv_str (pre_head (by decide)) (pre_head (by decide)) (pre_head (by decide)) ((hasPrefix_one _ _).2 rfl)]
    show Option.map _ (strR (t.flatMap esc ++ 34 :: r)) = _
    rw [strR_quo]
    rfl
theorem sp_arr (g : List UInt8) (n : Int) (t : List UInt8) (ks : List (List UInt8)) (ps : List JV) : sp g (.mk 6 n t ks ps) = 91 :: (spA g true ps ++ (g ++ [93])) := by rw [sp, if_pos rfl]
theorem sp_obj (g : List UInt8) (n : Int) (t : List UInt8) (ks : List (List UInt8)) (ps : List JV) (h : ∀ x ∈ ks, checkN (.mk 5 0 x [] []) = 0) : sp g (.mk 7 n t ks ps) = 123 :: (spO g ks ps ++ (g ++ [125])) := by rw [sp, if_neg (by decide), if_pos rfl, if_pos h]
theorem sp_leaf (g : List UInt8) (k n : Int) (t : List UInt8) (ks : List (List UInt8)) (ps : List JV) (h6 : k ≠ 6) (h7 : k ≠ 7) (h : checkN (.mk k n t ks ps) = 0) : sp g (.mk k n t ks ps) = jtext (.mk k n t ks ps) := by rw [sp, if_neg h6, if_neg h7, if_pos h]
theorem sp_head (g : List UInt8) (v : JV) (hf : Fine v) (ht : Fit v) : ∃ c q, sp g v = c :: q ∧ startC c = true := by
  cases v with
  | mk k n t ks ps =>
    unfold Fit at ht
    by_cases h6 : k = 6
    · subst h6; exact ⟨91, _, sp_arr _ _ _ _ _, by decide⟩
    by_cases h7 : k = 7
    · subst h7; exact ⟨123, _, sp_obj _ _ _ _ _ ht.2.1, by decide⟩
    · rw [sp_leaf g k n t ks ps h6 h7 (ht.1 h6 h7)]; exact jtext_head _ hf
theorem skip_sp (g : List UInt8) (v : JV) (hf : Fine v) (ht : Fit v) (r : List UInt8) : skip (sp g v ++ r) = sp g v ++ r := by
  obtain ⟨c, q, h, hs⟩ := sp_head g v hf ht
  rw [h]
  exact skip_non (start_ws c hs)

/-- What a reader of values does with the texts of these. -/
def Reads (f : List UInt8 → Option (JV × List UInt8)) (g : List UInt8) (ps : List JV) : Prop := ∀ p ∈ ps, ∀ q, NoDig q → ∃ q', f (sp g p ++ q) = some (p, q') ∧ skip q' = skip q
theorem arrL_spread (f : List UInt8 → Option (JV × List UInt8)) (g : List UInt8) (hg : Gap g) (r : List UInt8) : ∀ (ps : List JV) (p : JV) (k : Nat), Fines (p :: ps) → Fits (p :: ps) → ps.length < k → Reads f g (p :: ps) →
    arrL f k (sp g p ++ (spA g false ps ++ (g ++ 93 :: r))) = some (p :: ps, skip r)
  | ps, p, 0, _, _, hk, _ => by omega
  | [], p, k + 1, hf, ht, hk, hp => by
    obtain ⟨q', h1, h2⟩ := hp p (by simp) (g ++ 93 :: r) (NoDig.gap hg (NoDig.cons (by decide)))
    have e : spA g false [] = [] := by rw [spA]
    rw [e, List.nil_append, arrL_end h1 (by rw [h2, skip_gap hg]; exact skip_non (by decide))]
  | p2 :: ps, p, k + 1, hf, ht, hk, hp => by
    unfold Fines at hf
    unfold Fits at ht
    have hf2 := hf.2
    have ht2 := ht.2
    unfold Fines at hf2
    unfold Fits at ht2
    have e : spA g false (p2 :: ps) ++ (g ++ 93 :: r) = 44 :: (g ++ (g ++ (sp g p2 ++ (spA g false ps ++ (g ++ 93 :: r))))) := by rw [spA]; simp
    rw [e]
    obtain ⟨q', h1, h2⟩ := hp p (by simp) (44 :: (g ++ (g ++ (sp g p2 ++ (spA g false ps ++ (g ++ 93 :: r)))))) (NoDig.cons (by decide))
    rw [arrL_more h1 (by rw [h2]; exact skip_non (by decide)), skip_gap hg, skip_gap hg, skip_sp g p2 hf2.1 ht2.1,
      arrL_spread f g hg r ps p2 k hf.2 ht.2 (by simpa using hk) (fun x hx => hp x (by simp [hx]))]
    rfl
/-- One member, ahead of those that are there. -/
theorem member_step (f : List UInt8 → Option (JV × List UInt8)) (g : List UInt8) (hg : Gap g) (key : List UInt8) (p : JV) (ks : List (List UInt8)) (ps : List JV) (k : Nat) (rest t : List UInt8) (hf : Fine p) (ht : Fit p) (hp : Reads f g [p])
    (hr : NoDig rest) (hlt : ∀ x ∈ ks, Op.bytesLess key x = true) :
    (skip rest = 44 :: t → objL f (k + 1) ks ps (skip (g ++ (quo key ++ (g ++ (58 :: (g ++ (sp g p ++ rest))))))) = objL f k (key :: ks) (p :: ps) (skip t)) ∧
    (skip rest = 125 :: t → objL f (k + 1) ks ps (skip (g ++ (quo key ++ (g ++ (58 :: (g ++ (sp g p ++ rest))))))) = some (key :: ks, p :: ps, skip t)) := by
  have hnot : key ∉ ks := fun h => by have := hlt key h; rw [bytesLess_irrefl] at this; cases this
  have hpl : place ks key = 0 := by
    cases ks with
    | nil => rfl
    | cons a l =>
      rw [place_cons, if_neg]
      intro h
      have := bytesLess_trans _ _ _ (hlt a (by simp)) h
      rw [bytesLess_irrefl] at this; cases this
  have e : skip (g ++ (quo key ++ (g ++ (58 :: (g ++ (sp g p ++ rest)))))) = 34 :: (key.flatMap esc ++ 34 :: (g ++ (58 :: (g ++ (sp g p ++ rest))))) := by
    rw [skip_gap hg]
    have : quo key ++ (g ++ (58 :: (g ++ (sp g p ++ rest)))) = 34 :: (key.flatMap esc ++ 34 :: (g ++ (58 :: (g ++ (sp g p ++ rest))))) := by simp [quo]
    rw [this]; exact skip_non (by decide)
  have h1 := strR_quo key (g ++ (58 :: (g ++ (sp g p ++ rest))))
  have h2 : skip (g ++ (58 :: (g ++ (sp g p ++ rest)))) = 58 :: (g ++ (sp g p ++ rest)) := by rw [skip_gap hg]; exact skip_non (by decide)
  obtain ⟨q', h3, h4⟩ := hp p (by simp) rest hr
  have h5 : f (skip (g ++ (sp g p ++ rest))) = some (p, q') := by rw [skip_gap hg, skip_sp g p hf ht]; exact h3
  constructor
  · intro hs
    rw [e, objL_more h1 h2 h5 hnot (by rw [h4]; exact hs), hpl, List.insertIdx_zero, List.insertIdx_zero]
  · intro hs
    rw [e, objL_last h1 h2 h5 hnot (by rw [h4]; exact hs), hpl, List.insertIdx_zero, List.insertIdx_zero]
theorem objL_spread (f : List UInt8 → Option (JV × List UInt8)) (g : List UInt8) (hg : Gap g) : ∀ (ks : List (List UInt8)) (ps : List JV) (k : Nat), ks ≠ [] → ks.length = ps.length → Fines ps → Fits ps → incr ks = true → Reads f g ps →
    (∀ t, objL f (k + ks.length) [] [] (skip (spO g ks ps ++ (g ++ 44 :: t))) = objL f k ks ps (skip t)) ∧
    (∀ t, objL f (k + ks.length) [] [] (skip (spO g ks ps ++ (g ++ 125 :: t))) = some (ks, ps, skip t))
  | [], _, _, h, _, _, _, _, _ => absurd rfl h
  | key :: ks, [], _, _, h, _, _, _, _ => by simp at h
  | key :: ks, p :: ps, k, _, hl, hf, ht, hi, hp => by
    have hf' := hf
    have ht' := ht
    unfold Fines at hf
    unfold Fits at ht
    obtain ⟨hlt, hi2⟩ := incr_cons.1 hi
    have hl2 : ks.length = ps.length := by simpa using hl
    have hpp : Reads f g [p] := fun x hx => hp x (by rw [List.mem_singleton] at hx; subst hx; simp)
    have nd44 : ∀ t, NoDig (g ++ 44 :: t) := fun t => NoDig.gap hg (NoDig.cons (by decide))
    have nd125 : ∀ t, NoDig (g ++ 125 :: t) := fun t => NoDig.gap hg (NoDig.cons (by decide))
    have s44 : ∀ t, skip (g ++ 44 :: t) = 44 :: t := fun t => by rw [skip_gap hg]; exact skip_non (by decide)
    have s125 : ∀ t, skip (g ++ 125 :: t) = 125 :: t := fun t => by rw [skip_gap hg]; exact skip_non (by decide)
    cases ks with
    | nil =>
      have hps : ps = [] := List.eq_nil_of_length_eq_zero (by simpa using hl2.symm)
      subst hps
      have e : ∀ X, spO g [key] [p] ++ X = g ++ (quo key ++ (g ++ (58 :: (g ++ (sp g p ++ X))))) := fun X => by rw [spO]; simp [spO]
      refine ⟨fun t => ?_, fun t => ?_⟩
      · rw [e, show k + [key].length = k + 1 from rfl]; exact (member_step f g hg key p [] [] k _ t hf.1 ht.1 hpp (nd44 t) hlt).1 (s44 t)
      · rw [e, show k + [key].length = k + 1 from rfl]; exact (member_step f g hg key p [] [] k _ t hf.1 ht.1 hpp (nd125 t) hlt).2 (s125 t)
    | cons key2 ks =>
      cases ps with
      | nil => simp at hl2
      | cons p2 ps =>
      have ih := objL_spread f g hg (key2 :: ks) (p2 :: ps) (k + 1) (by simp) hl2 hf.2 ht.2 hi2 (fun x hx => hp x (by simp at hx ⊢; exact .inr hx))
      have e : ∀ X, spO g (key :: key2 :: ks) (p :: p2 :: ps) ++ X = spO g (key2 :: ks) (p2 :: ps) ++ (g ++ 44 :: (g ++ (quo key ++ (g ++ (58 :: (g ++ (sp g p ++ X))))))) := fun X => by
        rw [spO]; simp
      refine ⟨fun t => ?_, fun t => ?_⟩
      · rw [e, show k + (key :: key2 :: ks).length = k + 1 + (key2 :: ks).length by simp; omega, ih.1]
        exact (member_step f g hg key p (key2 :: ks) (p2 :: ps) k _ t hf.1 ht.1 hpp (nd44 t) hlt).1 (s44 t)
      · rw [e, show k + (key :: key2 :: ks).length = k + 1 + (key2 :: ks).length by simp; omega, ih.1]
        exact (member_step f g hg key p (key2 :: ks) (p2 :: ps) k _ t hf.1 ht.1 hpp (nd125 t) hlt).2 (s125 t)
theorem spA_le (g : List UInt8) : ∀ (f : Bool) (ps : List JV) (x : JV), x ∈ ps → (sp g x).length ≤ (spA g f ps).length
  | f, [], x, h => by cases h
  | f, p :: ps, x, h => by
    rw [spA]
    rcases List.mem_cons.1 h with rfl | h
    · simp only [List.length_append]; omega
    · have := spA_le g false ps x h; simp only [List.length_append]; omega
theorem spO_le (g : List UInt8) : ∀ (ks : List (List UInt8)) (ps : List JV) (x : JV), ks.length = ps.length → x ∈ ps → (sp g x).length ≤ (spO g ks ps).length
  | ks, [], x, _, h => by cases h
  | [], p :: ps, x, hl, h => by simp at hl
  | k :: ks, p :: ps, x, hl, h => by
    rw [spO]
    rcases List.mem_cons.1 h with rfl | h
    · simp only [List.length_append, List.length_cons]; omega
    · have := spO_le g ks ps x (by simpa using hl) h; simp only [List.length_append]; omega
theorem spA_many (g : List UInt8) : ∀ (f : Bool) (ps : List JV), Fines ps → Fits ps → ps.length ≤ (spA g f ps).length
  | f, [], _, _ => by simp
  | f, p :: ps, h, h' => by
    unfold Fines at h
    unfold Fits at h'
    obtain ⟨c, q, hc, _⟩ := sp_head g p h.1 h'.1
    have := spA_many g false ps h.2 h'.2
    rw [spA, hc]; simp only [List.length_append, List.length_cons]; omega
theorem spO_many (g : List UInt8) : ∀ (ks : List (List UInt8)) (ps : List JV), ks.length = ps.length → ks.length ≤ (spO g ks ps).length
  | [], ps, _ => by simp
  | k :: ks, [], h => by simp at h
  | k :: ks, p :: ps, h => by
    have := spO_many g ks ps (by simpa using h)
    rw [spO]; simp only [List.length_append, List.length_cons, quo]; omega

theorem pv_spread (g : List UInt8) (hg : Gap g) : ∀ (n : Nat) (v : JV) (r : List UInt8), (sp g v).length < n → Fine v → Fit v → NoDig r → ∃ r', pv n (sp g v ++ r) = some (v, r') ∧ skip r' = skip r := by
  intro n
  induction n with
  | zero => intro v r h; omega
  | succ n ih =>
    intro v r hn hf ht hr
    cases v with
    | mk k num t ks ps =>
    by_cases h6 : k = 6
    · subst h6
      have hf' := hf
      have ht' := ht
      unfold Fine at hf
      unfold Fit at ht
      obtain ⟨ha, hfs⟩ := hf
      obtain ⟨_, _, hts⟩ := ht
      obtain ⟨_, hk1, hk7, hobj, hn1, hn2, hu⟩ := alone_facts ha
      obtain ⟨u1, u2, u3, u4⟩ := unused_facts hu
      obtain rfl := u1 (by decide); obtain rfl := u2 (by decide); obtain rfl := u3 (by decide)
      rw [sp_arr] at hn ⊢
      have e : 91 :: (spA g true ps ++ (g ++ [93])) ++ r = 91 :: (spA g true ps ++ (g ++ 93 :: r)) := by simp
      simp only [List.length_cons, List.length_append] at hn
      rw [e, pv_arr (r1 := spA g true ps ++ (g ++ 93 :: r)) (pre_head (by decide)) (pre_head (by decide)) (pre_head (by decide)) (hasPrefix_not (by simp)) (skip_non (by decide))]
      cases ps with
      | nil =>
        have e2 : spA g true [] = [] := by rw [spA]
        refine ⟨skip r, ?_, skip_skip r⟩
        rw [e2, List.nil_append, arrR_end (r2 := r) (by rw [skip_gap hg]; exact skip_non (by decide))]; rfl
      | cons p ps =>
        have hp : Fine p := by unfold Fines at hfs; exact hfs.1
        have hpt : Fit p := by unfold Fits at hts; exact hts.1
        have hsk : skip (spA g true (p :: ps) ++ (g ++ 93 :: r)) = sp g p ++ (spA g false ps ++ (g ++ 93 :: r)) := by
          have e2 : spA g true (p :: ps) ++ (g ++ 93 :: r) = g ++ (sp g p ++ (spA g false ps ++ (g ++ 93 :: r))) := by rw [spA]; simp
          rw [e2, skip_gap hg]; exact skip_sp g p hp hpt _
        have hhd : ¬ (skip (spA g true (p :: ps) ++ (g ++ 93 :: r))).head? = some 93 := by
          rw [hsk]
          obtain ⟨c, q, hc, hs⟩ := sp_head g p hp hpt
          rw [hc]
          simp; rintro rfl; revert hs; decide
        have hmany : ps.length ≤ (spA g false ps).length := spA_many g false ps (by unfold Fines at hfs; exact hfs.2) (by unfold Fits at hts; exact hts.2)
        refine ⟨skip r, ?_, skip_skip r⟩
        rw [arrR_more hhd, hsk, arrL_spread (pv n) g hg r ps p _ hfs hts (by simp only [List.length_append]; omega) ?_]
        · rfl
        · intro x hx q hq
          have h1 := spA_le g true (p :: ps) x hx
          exact ih x q (by omega) (fines_mem hfs hx) (fits_mem hts hx) hq
    by_cases h7 : k = 7
    · subst h7
      unfold Fine at hf
      unfold Fit at ht
      obtain ⟨ha, hfs⟩ := hf
      obtain ⟨_, hks, hts⟩ := ht
      obtain ⟨_, hk1, hk7, hobj, hn1, hn2, hu⟩ := alone_facts ha
      obtain ⟨u1, u2, u3, u4⟩ := unused_facts hu
      obtain rfl := u1 (by decide); obtain rfl := u2 (by decide)
      obtain ⟨hlen, hinc⟩ := hobj rfl
      rw [sp_obj g 0 [] ks ps hks] at hn ⊢
      have e : 123 :: (spO g ks ps ++ (g ++ [125])) ++ r = 123 :: (spO g ks ps ++ (g ++ 125 :: r)) := by simp
      simp only [List.length_cons, List.length_append] at hn
      rw [e, pv_obj (r1 := spO g ks ps ++ (g ++ 125 :: r)) (pre_head (by decide)) (pre_head (by decide)) (pre_head (by decide)) (hasPrefix_not (by simp)) (skip_non (by decide))]
      by_cases hk0 : ks = []
      · subst hk0
        have hps : ps = [] := List.eq_nil_of_length_eq_zero (by simpa using hlen.symm)
        subst hps
        have e2 : spO g [] [] = [] := by rw [spO]
        refine ⟨skip r, ?_, skip_skip r⟩
        rw [e2, List.nil_append, objR_end (r2 := r) (by rw [skip_gap hg]; exact skip_non (by decide))]; rfl
      · have hmany := spO_many g ks ps hlen
        have hhd : ∀ X, ∃ q, skip (spO g ks ps ++ X) = 34 :: q := by
          have : ∀ (ks : List (List UInt8)) (ps : List JV), ks ≠ [] → ks.length = ps.length → ∀ X, ∃ q, skip (spO g ks ps ++ X) = 34 :: q := by
            intro ks
            induction ks with
            | nil => intro ps h; exact absurd rfl h
            | cons a l ih2 =>
              intro ps _ hl X
              cases ps with
              | nil => simp at hl
              | cons p ps =>
                cases l with
                | nil =>
                  have hps : ps = [] := List.eq_nil_of_length_eq_zero (by simpa using hl.symm)
                  subst hps
                  refine ⟨a.flatMap esc ++ 34 :: (g ++ (58 :: (g ++ (sp g p ++ X)))), ?_⟩
                  have e3 : spO g [a] [p] ++ X = g ++ (34 :: (a.flatMap esc ++ 34 :: (g ++ (58 :: (g ++ (sp g p ++ X)))))) := by rw [spO]; simp [spO, quo]
                  rw [e3, skip_gap hg]; exact skip_non (by decide)
                | cons b l =>
                  rw [spO, List.append_assoc]
                  exact ih2 ps (by simp) (by simpa using hl) _
          exact this ks ps hk0 hlen
        obtain ⟨q, hq⟩ := hhd (g ++ 125 :: r)
        have hhd2 : ¬ (skip (spO g ks ps ++ (g ++ 125 :: r))).head? = some 125 := by rw [hq]; simp
        have hlk : ks.length ≤ (skip (spO g ks ps ++ (g ++ 125 :: r))).length + 1 := by
          have key : ∀ (ks : List (List UInt8)) (ps : List JV) (X : List UInt8), ks.length = ps.length → ks.length ≤ (skip (spO g ks ps ++ X)).length + 1 := by
            intro ks
            induction ks with
            | nil => intro ps X _; simp
            | cons a l ih2 =>
              intro ps X hl
              cases ps with
              | nil => simp at hl
              | cons p ps =>
                by_cases hl0 : l = []
                · subst hl0; simp
                · rw [spO, List.append_assoc]
                  have hl' : l.length = ps.length := by simpa using hl
                  have hps : ps.isEmpty = false := by
                    cases ps with
                    | nil => exact absurd (List.eq_nil_of_length_eq_zero (by simpa using hl')) hl0
                    | cons _ _ => rfl
                  have : ∀ Y, (skip (spO g l ps ++ Y)).length + 0 ≥ 0 := fun _ => by omega
                  have lem : ∀ (l : List (List UInt8)) (ps : List JV), l ≠ [] → l.length = ps.length → ∀ Y, l.length + Y.length ≤ (skip (spO g l ps ++ Y)).length := by
                    intro l
                    induction l with
                    | nil => intro ps h; exact absurd rfl h
                    | cons b l ih3 =>
                      intro ps _ hl Y
                      cases ps with
                      | nil => simp at hl
                      | cons p ps =>
                        by_cases hl0 : l = []
                        · subst hl0
                          have hps : ps = [] := List.eq_nil_of_length_eq_zero (by simpa using hl.symm)
                          subst hps
                          have e3 : spO g [b] [p] ++ Y = g ++ (34 :: (b.flatMap esc ++ 34 :: (g ++ (58 :: (g ++ (sp g p ++ Y)))))) := by rw [spO]; simp [spO, quo]
                          rw [e3, skip_gap hg, skip_non (by decide)]
                          simp only [List.length_cons, List.length_append, List.length_nil]; omega
                        · rw [spO, List.append_assoc]
                          have := ih3 ps hl0 (by simpa using hl) ((if ps.isEmpty = true then [] else g ++ [44]) ++ (g ++ (quo b ++ (g ++ 58 :: (g ++ sp g p)))) ++ Y)
                          simp only [List.length_append, List.length_cons] at this ⊢
                          omega
                  have h3 := lem l ps hl0 hl' ((if ps.isEmpty = true then [] else g ++ [44]) ++ (g ++ (quo a ++ (g ++ 58 :: (g ++ sp g p)))) ++ X)
                  simp only [List.length_append, List.length_cons] at h3 ⊢
                  omega
          exact key ks ps _ hlen
        refine ⟨skip r, ?_, skip_skip r⟩
        rw [objR_more hhd2]
        have hsp := (objL_spread (pv n) g hg ks ps ((skip (spO g ks ps ++ (g ++ 125 :: r))).length + 1 - ks.length) hk0 hlen hfs hts hinc ?_).2 r
        · rw [show (skip (spO g ks ps ++ (g ++ 125 :: r))).length + 1 - ks.length + ks.length = (skip (spO g ks ps ++ (g ++ 125 :: r))).length + 1 by omega] at hsp
          rw [hsp]; rfl
        · intro x hx q hq
          have h1 := spO_le g ks ps x hlen hx
          exact ih x q (by omega) (fines_mem hfs hx) (fits_mem hts hx) hq
    · have hc : checkN (.mk k num t ks ps) = 0 := by unfold Fit at ht; exact ht.1 h6 h7
      rw [sp_leaf g k num t ks ps h6 h7 hc]
      exact ⟨r, pv_leaf n k num t ks ps r hf h6 h7 hr, rfl⟩
/-- The whole text, blanks on both sides. -/
theorem readR_spread (g : List UInt8) (hg : Gap g) (v : JV) (hf : Fine v) (ht : Fit v) : readR (g ++ sp g v ++ g) = some v := by
  have hs : skip (g ++ sp g v ++ g) = sp g v ++ g := by rw [List.append_assoc, skip_gap hg]; exact skip_sp g v hf ht g
  have nd : NoDig g := by have := NoDig.gap (r := []) hg NoDig.nil; simpa using this
  obtain ⟨r', h1, h2⟩ := pv_spread g hg ((g ++ sp g v ++ g).length + 1) v g (by simp only [List.length_append]; omega) hf ht nd
  rw [readR_some (s := g ++ sp g v ++ g) (r := r') (by rw [hs]; exact h1)]
  have h3 : skip g = [] := by have := skip_gap hg []; simpa [skip] using this
  rw [if_pos (by rw [h2, h3])]
end Go.Proofs.YtbinoohmblkibaaDoor
