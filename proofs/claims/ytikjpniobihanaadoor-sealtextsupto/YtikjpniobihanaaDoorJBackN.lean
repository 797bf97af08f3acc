/- Numbers, arrays and objects come back from their texts. Nothing of the program is named here. -/
import Derived.Test.YtikjpniobihanaaDoorJBack
namespace Go.Proofs.YtikjpniobihanaaDoor
set_option linter.unusedVariables false
set_option linter.unusedSimpArgs false

theorem dig_is (k : Nat) (h : k < 10) : isDig (UInt8.ofNat (48 + k)) = true ∧ (UInt8.ofNat (48 + k)).toNat = 48 + k ∧ (UInt8.ofNat (48 + k) = 48 ↔ k = 0) := by
  have : ∀ j : Fin 10, isDig (UInt8.ofNat (48 + j.val)) = true ∧ (UInt8.ofNat (48 + j.val)).toNat = 48 + j.val ∧ (UInt8.ofNat (48 + j.val) = 48 ↔ j.val = 0) := by decide +kernel
  exact this ⟨k, h⟩
theorem dec_all (u : Nat) : ∀ c ∈ Lib.decDigits u, isDig c = true := by
  induction u using Nat.strongRecOn with
  | _ u ih =>
    by_cases h : u < 10
    · rw [Lib.decDigits, dif_pos h]
      intro c hc
      rw [List.mem_singleton] at hc; subst hc
      exact (dig_is u h).1
    · rw [Lib.decDigits, dif_neg h]
      intro c hc
      rcases List.mem_append.1 hc with hc | hc
      · exact ih (u / 10) (by omega) c hc
      · rw [List.mem_singleton] at hc; subst hc
        exact (dig_is (u % 10) (by omega)).1
theorem dec_head (u : Nat) (h0 : 0 < u) : ∃ c q, Lib.decDigits u = c :: q ∧ c ≠ 48 := by
  induction u using Nat.strongRecOn with
  | _ u ih =>
    by_cases h : u < 10
    · exact ⟨_, [], by rw [Lib.decDigits, dif_pos h], fun e => by have := (dig_is u h).2.2.1 e; omega⟩
    · obtain ⟨c, q, h1, h2⟩ := ih (u / 10) (by omega) (by omega)
      exact ⟨c, q ++ [UInt8.ofNat (48 + u % 10)], by rw [Lib.decDigits, dif_neg h, h1]; rfl, h2⟩
theorem digGo_app : ∀ (a b : List UInt8) (n : Int), digGo n (a ++ b) = digGo (digGo n a) b
  | [], b, n => rfl
  | c :: a, b, n => by show digGo _ (a ++ b) = _; rw [digGo_app a b]; rfl
theorem digGo_dec (u : Nat) (hu : u ≤ 9007199254740992) : digGo 0 (Lib.decDigits u) = u := by
  induction u using Nat.strongRecOn with
  | _ u ih =>
    by_cases h : u < 10
    · rw [Lib.decDigits, dif_pos h]
      have := (dig_is u h).2.1
      simp only [digGo, this]
      omega
    · rw [Lib.decDigits, dif_neg h, digGo_app, ih (u / 10) (by omega) (by omega)]
      have := (dig_is (u % 10) (by omega)).2.1
      simp only [digGo, this]
      omega
theorem takeWhile_all {p : UInt8 → Bool} : ∀ (a r : List UInt8), (∀ c ∈ a, p c = true) → (∀ c q, r = c :: q → p c = false) → (a ++ r).takeWhile p = a ∧ (a ++ r).dropWhile p = r
  | [], r, _, h => by
    cases r with
    | nil => simp
    | cons c q => simp [h c q rfl]
  | c :: a, r, h1, h2 => by
    have := takeWhile_all a r (fun x hx => h1 x (by simp [hx])) h2
    simp [h1 c (by simp), this.1, this.2]
theorem numR_back (n : Int) (h0 : -9007199254740992 < n) (h1 : n < 9007199254740992) (r : List UInt8) (hr : Ends r) : numR (Lib.itoa n ++ r) = some (n, r) := by
  by_cases hneg : n < 0
  · obtain ⟨u, rfl⟩ : ∃ u : Nat, n = -(u : Int) := ⟨n.natAbs, by omega⟩
    rw [Lib.itoa_neg u (by omega)]
    obtain ⟨c, q, hc, hc48⟩ := dec_head u (by omega)
    obtain ⟨ht, hd⟩ := takeWhile_all (Lib.decDigits u) r (dec_all u) hr.2
    rw [numR_eq (by simp) true (by simp) (Lib.decDigits u ++ r) (by simp), ht, hd, hc, if_neg (by simp; exact hc48), ← hc, digGo_dec u (by omega)]
    simp
  · obtain ⟨u, rfl⟩ : ∃ u : Nat, n = u := ⟨n.toNat, by omega⟩
    rw [Lib.itoa_nonneg]
    by_cases hu : u = 0
    · subst hu
      have : Lib.decDigits 0 = [48] := by rw [Lib.decDigits, dif_pos (by omega)]; rfl
      rw [this]
      simp [numR]
    · obtain ⟨c, q, hc, hc48⟩ := dec_head u (by omega)
      obtain ⟨ht, hd⟩ := takeWhile_all (Lib.decDigits u) r (dec_all u) hr.2
      have hdc : isDig c = true := dec_all u c (by rw [hc]; simp)
      have hc45 : c ≠ 45 := fun e => by subst e; revert hdc; decide
      have hh : (Lib.decDigits u ++ r).head? = some c := by rw [hc]; rfl
      rw [numR_eq (by rw [hh]; simpa using hc48) false (by rw [hh]; simpa using hc45) (Lib.decDigits u ++ r) (by simp), ht, hd, hc, if_neg (by simp; exact hc48), ← hc, digGo_dec u (by omega)]
      simp

/-- The first sign of a text. -/
def startC (c : UInt8) : Bool := c == 110 || c == 102 || c == 116 || c == 34 || c == 91 || c == 123 || c == 45 || isDig c
theorem start_ws : ∀ c : UInt8, startC c = true → isWs c = false := by
  intro c
  have : ∀ n : Fin 256, startC (UInt8.ofNat n.val) = true → isWs (UInt8.ofNat n.val) = false := by decide +kernel
  have h := this ⟨c.toNat, c.toNat_lt⟩
  simpa using h
theorem itoa_head (n : Int) : ∃ c q, Lib.itoa n = c :: q ∧ (c = 45 ∨ isDig c = true) := by
  unfold Lib.itoa
  split
  · exact ⟨45, _, rfl, .inl rfl⟩
  · have hne : Lib.decDigits n.toNat ≠ [] := by
      intro e
      have := Lib.decDigits_length n.toNat
      rw [e] at this
      have := Lib.nDigits_pos n.toNat
      simp at *; omega
    obtain ⟨c, q, hc⟩ := List.exists_cons_of_ne_nil hne
    exact ⟨c, q, hc, .inr (dec_all _ c (by rw [hc]; simp))⟩
theorem jtext_head (v : JV) (hf : Fine v) : ∃ c q, jtext v = c :: q ∧ startC c = true := by
  cases v with
  | mk k n t ks ps =>
    unfold Fine at hf
    obtain ⟨_, h1, h7, _⟩ := alone_facts hf.1
    rcases (by omega : k = 1 ∨ k = 2 ∨ k = 3 ∨ k = 4 ∨ k = 5 ∨ k = 6 ∨ k = 7) with rfl | rfl | rfl | rfl | rfl | rfl | rfl
    · exact ⟨110, [117, 108, 108], by rw [jtext]; rfl, by decide⟩
    · exact ⟨102, [97, 108, 115, 101], by rw [jtext]; rfl, by decide⟩
    · exact ⟨116, [114, 117, 101], by rw [jtext]; rfl, by decide⟩
    · obtain ⟨c, q, hc, h⟩ := itoa_head n
      refine ⟨c, q, by rw [jtext]; simpa using hc, ?_⟩
      rcases h with rfl | h
      · decide
      · simp [startC, h]
    · exact ⟨34, _, by rw [jtext]; rfl, by decide⟩
    · exact ⟨91, _, by rw [jtext]; rfl, by decide⟩
    · exact ⟨123, _, by rw [jtext]; rfl, by decide⟩
theorem skip_text (v : JV) (hf : Fine v) (r : List UInt8) : skip (jtext v ++ r) = jtext v ++ r := by
  obtain ⟨c, q, h, hs⟩ := jtext_head v hf
  rw [h]
  exact skip_non (start_ws c hs)
/-- No word begins with another sign. -/
theorem pre_head {c d : UInt8} {p q : List UInt8} (h : d ≠ c) : Lib.hasPrefix (c :: q) (d :: p) = false := by
  simp only [Lib.hasPrefix, List.isPrefixOf]
  rw [show (d == c) = false by simpa using h]; rfl
theorem ends_93 (r : List UInt8) : Ends (93 :: r) := Ends.cons (by decide) (by decide)
theorem ends_44 (r : List UInt8) : Ends (44 :: r) := Ends.cons (by decide) (by decide)
theorem ends_125 (r : List UInt8) : Ends (125 :: r) := Ends.cons (by decide) (by decide)

/-- The elements of an array. -/
theorem arrL_back (f : List UInt8 → Option (JV × List UInt8)) : ∀ (ps : List JV) (k : Nat) (r : List UInt8), ps ≠ [] → Fines ps → ps.length ≤ k → Ends r →
    (∀ p ∈ ps, ∀ q, Ends q → f (jtext p ++ q) = some (p, q)) → arrL f k (jarr true ps ++ 93 :: r) = some (ps, r)
  | [], k, r, h, _, _, _, _ => absurd rfl h
  | p :: ps, 0, r, _, _, hk, _, _ => by simp at hk
  | [p], k + 1, r, _, hf, hk, hr, hp => by
    have e : jarr true [p] ++ 93 :: r = jtext p ++ 93 :: r := by simp [jarr, sep]
    rw [e, arrL_end (hp p (by simp) _ (ends_93 r)) (ends_93 r).1, hr.1]
  | p :: p2 :: ps, k + 1, r, _, hf, hk, hr, hp => by
    unfold Fines at hf
    have e : jarr true (p :: p2 :: ps) ++ 93 :: r = jtext p ++ 44 :: (jarr true (p2 :: ps) ++ 93 :: r) := by simp [jarr, sep]
    have hsk : skip (jarr true (p2 :: ps) ++ 93 :: r) = jarr true (p2 :: ps) ++ 93 :: r := by
      have hf2 := hf.2
      unfold Fines at hf2
      have e2 : jarr true (p2 :: ps) ++ 93 :: r = jtext p2 ++ (jarr false ps ++ 93 :: r) := by simp [jarr, sep]
      rw [e2]; exact skip_text p2 hf2.1 _
    rw [e, arrL_more (hp p (by simp) _ (ends_44 _)) (ends_44 _).1, hsk, arrL_back f (p2 :: ps) k r (by simp) hf.2 (by simpa using hk) hr (fun x hx => hp x (by simp [hx]))]
    rfl
theorem place_end {ks : List (List UInt8)} {k : List UInt8} (h : ∀ x ∈ ks, Op.bytesLess x k = true) : place ks k = ks.length := by
  unfold place
  congr 1
  induction ks with
  | nil => rfl
  | cons a ks ih => rw [List.takeWhile_cons, if_pos (h a (by simp)), ih fun x hx => h x (by simp [hx])]
theorem bytesLess_irrefl : ∀ a : List UInt8, Op.bytesLess a a = false
  | [] => rfl
  | c :: a => by simp [Op.bytesLess, bytesLess_irrefl a]
theorem insert_end {α : Type} (l : List α) (x : α) : l.insertIdx l.length x = l ++ [x] := by
  induction l with
  | nil => rfl
  | cons a l ih => simp [ih]
theorem bytesLess_trans : ∀ a b c : List UInt8, Op.bytesLess a b = true → Op.bytesLess b c = true → Op.bytesLess a c = true
  | a, [], c, h, _ => by cases a <;> simp [Op.bytesLess] at h
  | a, _ :: _, [], _, h => by simp [Op.bytesLess] at h
  | [], x :: b, y :: c, _, _ => by simp [Op.bytesLess]
  | z :: a, x :: b, y :: c, h1, h2 => by
    simp only [Op.bytesLess, Bool.or_eq_true, Bool.and_eq_true, decide_eq_true_eq, beq_iff_eq] at *
    rcases h1 with h1 | ⟨rfl, h1⟩
    · rcases h2 with h2 | ⟨rfl, h2⟩
      · exact .inl (UInt8.lt_trans h1 h2)
      · exact .inl h1
    · rcases h2 with h2 | ⟨rfl, h2⟩
      · exact .inl h2
      · exact .inr ⟨rfl, bytesLess_trans a b c h1 h2⟩

/-- The members of an object, behind those that are there. -/
theorem objL_back (f : List UInt8 → Option (JV × List UInt8)) : ∀ (ks : List (List UInt8)) (ps : List JV) (k : Nat) (r : List UInt8) (ks0 : List (List UInt8)) (ps0 : List JV), ks ≠ [] → ks.length = ps.length → Fines ps → ps.length ≤ k → Ends r → ks0.length = ps0.length →
    incr ks = true → (∀ x ∈ ks0, ∀ y ∈ ks, Op.bytesLess x y = true) → (∀ a b c : List UInt8, Op.bytesLess a b = true → Op.bytesLess b c = true → Op.bytesLess a c = true) →
    (∀ p ∈ ps, ∀ q, Ends q → f (jtext p ++ q) = some (p, q)) → objL f k ks0 ps0 (jobj true ks ps ++ 125 :: r) = some (ks0 ++ ks, ps0 ++ ps, r) := by
  intro ks
  induction ks with
  | nil => intro ps k r ks0 ps0 h; exact absurd rfl h
  | cons key ks ih =>
    intro ps k r ks0 ps0 _ hlen hf hk hr hl0 hinc hlt htr hp
    cases ps with
    | nil => simp at hlen
    | cons p ps =>
    cases k with
    | zero => simp at hk
    | succ k =>
    have hf' := hf
    unfold Fines at hf
    have hnot : key ∉ ks0 := fun hm => by
      have := hlt key hm key (by simp)
      rw [bytesLess_irrefl] at this; cases this
    have hpl := place_end (fun x hx => hlt x hx key (by simp))
    have hstr : ∀ q, strR (key.flatMap esc ++ 34 :: q) = some (key, q) := fun q => strR_quo key q
    have h58 : ∀ q, skip (58 :: q) = 58 :: q := fun q => skip_non (by decide)
    cases ks with
    | nil =>
      have hps : ps = [] := List.eq_nil_of_length_eq_zero (by simpa using hlen.symm)
      subst hps
      have e : jobj true [key] [p] ++ 125 :: r = 34 :: (key.flatMap esc ++ 34 :: 58 :: (jtext p ++ 125 :: r)) := by simp [jobj, sep, quo]
      rw [e, objL_last (hstr _) (h58 _) (by rw [skip_text p hf.1]; exact hp p (by simp) _ (ends_125 r)) hnot (ends_125 r).1, hr.1, hpl, insert_end, hl0, insert_end]
    | cons key2 ks =>
      cases ps with
      | nil => simp at hlen
      | cons p2 ps =>
      have e : jobj true (key :: key2 :: ks) (p :: p2 :: ps) ++ 125 :: r = 34 :: (key.flatMap esc ++ 34 :: 58 :: (jtext p ++ 44 :: (jobj true (key2 :: ks) (p2 :: ps) ++ 125 :: r))) := by simp [jobj, sep, quo]
      have hsk : skip (jobj true (key2 :: ks) (p2 :: ps) ++ 125 :: r) = jobj true (key2 :: ks) (p2 :: ps) ++ 125 :: r := by
        have e2 : jobj true (key2 :: ks) (p2 :: ps) ++ 125 :: r = 34 :: (key2.flatMap esc ++ 34 :: 58 :: (jtext p2 ++ (jobj false ks ps ++ 125 :: r))) := by simp [jobj, sep, quo]
        rw [e2]; exact skip_non (by decide)
      simp only [incr, Bool.and_eq_true] at hinc
      have hall : ∀ y ∈ key2 :: ks, Op.bytesLess key y = true := by
        have key_lt : ∀ (l : List (List UInt8)) (a : List UInt8), Op.bytesLess key a = true → incr (a :: l) = true → ∀ y ∈ a :: l, Op.bytesLess key y = true := by
          intro l
          induction l with
          | nil => intro a h1 _ y hy; simp at hy; subst hy; exact h1
          | cons b l ih2 =>
            intro a h1 h2 y hy
            simp only [incr, Bool.and_eq_true] at h2
            rcases List.mem_cons.1 hy with rfl | hy
            · exact h1
            · exact ih2 b (htr _ _ _ h1 h2.1) h2.2 y hy
        exact key_lt ks key2 hinc.1 hinc.2
      rw [e, objL_more (hstr _) (h58 _) (by rw [skip_text p hf.1]; exact hp p (by simp) _ (ends_44 _)) hnot (ends_44 _).1, hsk, hpl, insert_end, hl0, insert_end,
        ih (p2 :: ps) k r (ks0 ++ [key]) (ps0 ++ [p]) (by simp) (by simpa using hlen) hf.2 (by simpa using hk) hr (by simp [hl0]) hinc.2 ?_ htr (fun x hx => hp x (by simp [hx]))]
      · simp
      · intro x hx y hy
        rcases List.mem_append.1 hx with hx | hx
        · exact hlt x hx y (by simp at hy ⊢; exact .inr hy)
        · simp at hx; subst hx; exact hall y hy
theorem unused_facts {k n : Int} {t : List UInt8} {ks : List (List UInt8)} {ps : List JV} (h : unused (.mk k n t ks ps) = false) : (k ≠ 4 → n = 0) ∧ (k ≠ 5 → t = []) ∧ (k ≠ 7 → ks = []) ∧ (k ≠ 6 → k ≠ 7 → ps = []) := by
  simp only [unused, JV.num, JV.kind, JV.text, JV.keys, JV.parts, Bool.or_eq_false_iff, Bool.and_eq_false_iff, bne_eq_false_iff_eq, Bool.not_eq_false', List.isEmpty_iff, decide_eq_false_iff_not] at h
  obtain ⟨⟨⟨h1, h2⟩, h3⟩, h4⟩ := h
  refine ⟨fun h => ?_, fun h => ?_, fun h => ?_, fun h h' => ?_⟩
  · rcases h1 with h1 | h1
    · exact h1
    · exact absurd h1 h
  · rcases h2 with h2 | h2
    · exact h2
    · exact absurd h2 h
  · rcases h3 with h3 | h3
    · exact List.eq_nil_of_length_eq_zero (by have := of_decide_eq_false h3; omega)
    · exact absurd h3 h
  · rcases h4 with h4 | h4 | h4
    · exact List.eq_nil_of_length_eq_zero (by have := of_decide_eq_false h4; omega)
    · exact absurd h4 h
    · exact absurd h4 h'
theorem jarr_le : ∀ (f : Bool) (ps : List JV) (x : JV), x ∈ ps → (jtext x).length ≤ (jarr f ps).length
  | f, [], x, h => by cases h
  | f, p :: ps, x, h => by
    rw [jarr]
    rcases List.mem_cons.1 h with rfl | h
    · simp; omega
    · have := jarr_le false ps x h; simp; omega
theorem jobj_le : ∀ (f : Bool) (ks : List (List UInt8)) (ps : List JV) (x : JV), ks.length = ps.length → x ∈ ps → (jtext x).length ≤ (jobj f ks ps).length
  | f, ks, [], x, _, h => by cases h
  | f, [], p :: ps, x, hl, h => by simp at hl
  | f, k :: ks, p :: ps, x, hl, h => by
    rw [jobj]
    rcases List.mem_cons.1 h with rfl | h
    · simp; omega
    · have := jobj_le false ks ps x (by simpa using hl) h; simp; omega
theorem jarr_many : ∀ (f : Bool) (ps : List JV), Fines ps → ps.length ≤ (jarr f ps).length
  | f, [], _ => by simp
  | f, p :: ps, h => by
    unfold Fines at h
    obtain ⟨c, q, hc, _⟩ := jtext_head p h.1
    have := jarr_many false ps h.2
    rw [jarr, hc]; simp; omega
theorem jobj_many : ∀ (f : Bool) (ks : List (List UInt8)) (ps : List JV), ks.length = ps.length → ps.length ≤ (jobj f ks ps).length
  | f, ks, [], _ => by simp
  | f, [], p :: ps, h => by simp at h
  | f, k :: ks, p :: ps, h => by
    have := jobj_many false ks ps (by simpa using h)
    rw [jobj]; simp [quo]; omega
theorem fines_mem : ∀ {ps : List JV} {x : JV}, Fines ps → x ∈ ps → Fine x
  | [], x, _, h => by cases h
  | p :: ps, x, hf, h => by
    unfold Fines at hf
    rcases List.mem_cons.1 h with rfl | h
    · exact hf.1
    · exact fines_mem hf.2 h

/-- A value, from its text. -/
theorem pv_text : ∀ (n : Nat) (v : JV) (r : List UInt8), (jtext v).length < n → Fine v → Ends r → pv n (jtext v ++ r) = some (v, r) := by
  intro n
  induction n with
  | zero => intro v r h; omega
  | succ n ih =>
    intro v r hn hf hr
    cases v with
    | mk k num t ks ps =>
      have hf' := hf
      unfold Fine at hf
      obtain ⟨ha, hfs⟩ := hf
      obtain ⟨_, hk1, hk7, hobj, hn1, hn2, hu⟩ := alone_facts ha
      obtain ⟨u1, u2, u3, u4⟩ := unused_facts hu
      rcases (by omega : k = 1 ∨ k = 2 ∨ k = 3 ∨ k = 4 ∨ k = 5 ∨ k = 6 ∨ k = 7) with rfl | rfl | rfl | rfl | rfl | rfl | rfl
      · obtain rfl := u1 (by decide); obtain rfl := u2 (by decide); obtain rfl := u3 (by decide); obtain rfl := u4 (by decide) (by decide)
        have e : jtext (.mk 1 0 [] [] []) ++ r = 110 :: 117 :: 108 :: 108 :: r := by rw [jtext]; rfl
        rw [e, pv_null (by rfl)]; rfl
      · obtain rfl := u1 (by decide); obtain rfl := u2 (by decide); obtain rfl := u3 (by decide); obtain rfl := u4 (by decide) (by decide)
        have e : jtext (.mk 2 0 [] [] []) ++ r = 102 :: 97 :: 108 :: 115 :: 101 :: r := by rw [jtext]; rfl
        rw [e, pv_false (by rfl) (by rfl)]; rfl
      · obtain rfl := u1 (by decide); obtain rfl := u2 (by decide); obtain rfl := u3 (by decide); obtain rfl := u4 (by decide) (by decide)
        have e : jtext (.mk 3 0 [] [] []) ++ r = 116 :: 114 :: 117 :: 101 :: r := by rw [jtext]; rfl
        rw [e, pv_true (by rfl) (by rfl) (by rfl)]; rfl
      · obtain rfl := u2 (by decide); obtain rfl := u3 (by decide); obtain rfl := u4 (by decide) (by decide)
        have e : jtext (.mk 4 num [] [] []) = Lib.itoa num := by rw [jtext]; rfl
        obtain ⟨c, q, hc, hd⟩ := itoa_head num
        have hcs : c ≠ 110 ∧ c ≠ 102 ∧ c ≠ 116 ∧ c ≠ 34 ∧ c ≠ 91 ∧ c ≠ 123 ∧ isWs c = false := by
          rcases hd with rfl | hd
          · decide
          · refine ⟨?_, ?_, ?_, ?_, ?_, ?_, ?_⟩
            any_goals (rintro rfl; revert hd; decide)
            exact start_ws c (by simp [startC, hd])
        obtain ⟨c1, c2, c3, c4, c5, c6, c7⟩ := hcs
        have hcr : Lib.itoa num ++ r = c :: (q ++ r) := by rw [hc]; rfl
        have hsk : skip (Lib.itoa num ++ r) = Lib.itoa num ++ r := by rw [hcr]; exact skip_non c7
        have hh : (Lib.itoa num ++ r).head? = some c := by rw [hcr]; rfl
        rw [e, pv_num (by rw [hcr]; exact pre_head (Ne.symm c1)) (by rw [hcr]; exact pre_head (Ne.symm c2)) (by rw [hcr]; exact pre_head (Ne.symm c3)) (by rw [hcr]; exact pre_head (Ne.symm c4))
          (by rw [hsk, hh]; simpa using c5) (by rw [hsk, hh]; simpa using c6), hsk, numR_back num hn1 hn2 r hr]
        rfl
      · obtain rfl := u1 (by decide); obtain rfl := u3 (by decide); obtain rfl := u4 (by decide) (by decide)
        have e : jtext (.mk 5 0 t [] []) ++ r = 34 :: (t.flatMap esc ++ 34 :: r) := by rw [jtext]; simp [quo]
        rw [e, pv_str (pre_head (by decide)) (pre_head (by decide)) (pre_head (by decide)) ((hasPrefix_one _ _).2 rfl)]
        show Option.map _ (strR (t.flatMap esc ++ 34 :: r)) = _
        rw [strR_quo]
        rfl
      · obtain rfl := u1 (by decide); obtain rfl := u2 (by decide); obtain rfl := u3 (by decide)
        have e0 : jtext (.mk 6 0 [] [] ps) = 91 :: (jarr true ps ++ [93]) := by rw [jtext]; rfl
        have e : jtext (.mk 6 0 [] [] ps) ++ r = 91 :: (jarr true ps ++ 93 :: r) := by rw [e0]; simp
        rw [e0] at hn
        simp at hn
        rw [e, pv_arr (r1 := jarr true ps ++ 93 :: r) (pre_head (by decide)) (pre_head (by decide)) (pre_head (by decide)) (hasPrefix_not (by simp)) (skip_non (by decide))]
        cases ps with
        | nil =>
          have : arrR n (93 :: r) = some ([], skip r) := arrR_end (skip_non (by decide))
          show Option.map _ (arrR n (93 :: r)) = _
          rw [this, hr.1]; rfl
        | cons p ps =>
          have hp : Fine p := by unfold Fines at hfs; exact hfs.1
          have e2 : jarr true (p :: ps) ++ 93 :: r = jtext p ++ (jarr false ps ++ 93 :: r) := by simp [jarr, sep]
          have hsk : skip (jarr true (p :: ps) ++ 93 :: r) = jarr true (p :: ps) ++ 93 :: r := by
            rw [e2]; exact skip_text p hp _
          have hhd : ¬ (skip (jarr true (p :: ps) ++ 93 :: r)).head? = some 93 := by
            rw [hsk]
            obtain ⟨c, q, hc, hs⟩ := jtext_head p hp
            rw [e2, hc]
            simp; rintro rfl; revert hs; decide
          have hmany := jarr_many true (p :: ps) hfs
          rw [arrR_more hhd, hsk, arrL_back (pv n) (p :: ps) _ r (by simp) hfs (by rw [List.length_append]; omega) hr ?_]
          · rfl
          · intro x hx q hq
            have h1 := jarr_le true (p :: ps) x hx
            exact ih x q (by omega) (fines_mem hfs hx) hq
      · obtain rfl := u1 (by decide); obtain rfl := u2 (by decide)
        obtain ⟨hlen, hinc⟩ := hobj rfl
        have e0 : jtext (.mk 7 0 [] ks ps) = 123 :: (jobj true ks ps ++ [125]) := by rw [jtext]; rfl
        have e : jtext (.mk 7 0 [] ks ps) ++ r = 123 :: (jobj true ks ps ++ 125 :: r) := by rw [e0]; simp
        rw [e0] at hn
        simp at hn
        rw [e, pv_obj (r1 := jobj true ks ps ++ 125 :: r) (pre_head (by decide)) (pre_head (by decide)) (pre_head (by decide)) (hasPrefix_not (by simp)) (skip_non (by decide))]
        cases ks with
        | nil =>
          have hps : ps = [] := List.eq_nil_of_length_eq_zero (by simpa using hlen.symm)
          subst hps
          have : objR n (125 :: r) = some ([], [], skip r) := objR_end (skip_non (by decide))
          show Option.map _ (objR n (125 :: r)) = _
          rw [this, hr.1]; rfl
        | cons key ks =>
          cases ps with
          | nil => simp at hlen
          | cons p ps =>
          have e2 : jobj true (key :: ks) (p :: ps) ++ 125 :: r = 34 :: (key.flatMap esc ++ 34 :: 58 :: (jtext p ++ (jobj false ks ps ++ 125 :: r))) := by simp [jobj, sep, quo]
          have hsk : skip (jobj true (key :: ks) (p :: ps) ++ 125 :: r) = jobj true (key :: ks) (p :: ps) ++ 125 :: r := by
            rw [e2]; exact skip_non (by decide)
          have hhd : ¬ (skip (jobj true (key :: ks) (p :: ps) ++ 125 :: r)).head? = some 125 := by rw [hsk, e2]; simp
          have hmany := jobj_many true (key :: ks) (p :: ps) hlen
          rw [objR_more hhd, hsk, objL_back (pv n) (key :: ks) (p :: ps) _ r [] [] (by simp) hlen hfs (by rw [List.length_append]; omega) hr rfl hinc (by simp) bytesLess_trans ?_]
          · rfl
          · intro x hx q hq
            have h1 := jobj_le true (key :: ks) (p :: ps) x hlen hx
            exact ih x q (by omega) (fines_mem hfs hx) hq
/-- A whole text. -/
theorem readR_text (v : JV) (hf : Fine v) : readR (jtext v) = some v := by
  have h := pv_text ((jtext v).length + 1) v [] (by omega) hf Ends.nil
  have hs := skip_text v hf []
  simp only [List.append_nil] at h hs
  rw [← hs] at h
  rw [hs, ← hs] at h
  rw [readR_some (s := jtext v) (r := []) (by rw [hs] at h ⊢; exact h)]
  rfl
end Go.Proofs.YtikjpniobihanaaDoor
