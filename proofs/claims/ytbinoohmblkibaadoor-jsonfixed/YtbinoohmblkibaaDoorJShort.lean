/- The canonical text of what is read is no longer than what is read. Nothing of the program is named here. -/
import Derived.Test.YtbinoohmblkibaaDoorJCount
import Derived.Test.YtbinoohmblkibaaDoorJBackN
namespace Go.Proofs.YtbinoohmblkibaaDoor
set_option linter.unusedVariables false
set_option linter.unusedSimpArgs false

theorem codeR_len4 (r : List UInt8) (x : UInt8) (q : List UInt8) (h : codeR r = some (x, q)) : q.length + 4 ≤ r.length := by
  have go : ∀ (k : Nat) (m : Int) (r : List UInt8) (n : Int) (q : List UInt8), codeGo k m r = some (n, q) → q.length + k ≤ r.length := by
    intro k
    induction k with
    | zero => intro m r n q h; simp [codeGo] at h; rw [h.2]; omega
    | succ k ih =>
      intro m r n q h
      cases r with
      | nil => simp [codeGo] at h
      | cons c r =>
        rw [codeGo] at h
        split at h
        · cases h
        · have := ih _ _ _ _ h; simp; omega
  unfold codeR at h
  split at h
  · cases h
  · rename_i n q' he
    split at h
    · simp at h
      obtain ⟨_, rfl⟩ := h
      exact go 4 0 r n q' he
    · cases h
theorem unlet_esc (c x : UInt8) (h : unlet c = some x) : (esc x).length = 2 := by
  unfold unlet at h
  split at h
  · cases h
  · have hm : x ∈ escL := List.mem_of_getElem? h
    have : ∀ y ∈ escL, (esc y).length = 2 := by decide
    exact this x hm
theorem escR_short (r : List UInt8) (x : UInt8) (q : List UInt8) (h : escR r = some (x, q)) : (esc x).length + q.length ≤ r.length + 1 := by
  cases r with
  | nil => simp [escR] at h
  | cons c r =>
    rw [escR_cons] at h
    by_cases h1 : c = 47
    · rw [if_pos h1] at h; simp at h; obtain ⟨rfl, rfl⟩ := h; simp [esc]; omega
    rw [if_neg h1] at h
    by_cases h2 : c = 117
    · rw [if_pos h2] at h; have := codeR_len4 _ _ _ h; have := esc_le x; simp; omega
    rw [if_neg h2] at h
    cases hu : unlet c with
    | none => rw [hu] at h; cases h
    | some y =>
      rw [hu] at h
      simp at h
      obtain ⟨rfl, rfl⟩ := h
      have := unlet_esc c y hu
      simp; omega
theorem esc_plain {c : UInt8} (h : ¬ c.toNat < 32) (h1 : c ≠ 34) (h2 : c ≠ 92) : (esc c).length = 1 := by
  have g : ∀ d : UInt8, d.toNat < 32 → c ≠ d := fun d hd e => h (by rw [e]; exact hd)
  unfold esc
  rw [if_neg h1, if_neg h2, if_neg (g 8 (by decide)), if_neg (g 9 (by decide)), if_neg (g 10 (by decide)), if_neg (g 12 (by decide)), if_neg (g 13 (by decide)), if_neg h]; rfl
theorem strR_short : ∀ (r t q : List UInt8), strR r = some (t, q) → (t.flatMap esc).length + q.length + 1 ≤ r.length := by
  intro r
  induction hn : r.length using Nat.strongRecOn generalizing r with
  | _ n ih =>
  intro t q h
  cases r with
  | nil => rw [strR_nil] at h; cases h
  | cons c r =>
    by_cases h1 : c.toNat < 32
    · rw [strR_low h1] at h; cases h
    by_cases h2 : c = 34
    · subst h2; rw [strR_end] at h; simp at h; obtain ⟨rfl, rfl⟩ := h; simp at hn ⊢; omega
    by_cases h3 : c = 92
    · subst h3
      rw [strR_esc] at h
      split at h
      · cases h
      · rename_i x q' he
        have hl := escR_len _ _ _ he
        have hs := escR_short _ _ _ he
        simp only [Option.map_eq_some_iff] at h
        obtain ⟨z, hz, hzz⟩ := h
        simp at hzz
        obtain ⟨rfl, rfl⟩ := hzz
        have := ih q'.length (by simp at hn; omega) q' rfl z.1 z.2 hz
        rw [List.flatMap_cons, List.length_append]
        simp only [List.length_cons] at hn ⊢; omega
    · rw [strR_cons h1 h2 h3] at h
      simp only [Option.map_eq_some_iff] at h
      obtain ⟨z, hz, hzz⟩ := h
      simp at hzz
      obtain ⟨rfl, rfl⟩ := hzz
      have := ih r.length (by simp at hn; omega) r rfl z.1 z.2 hz
      have := esc_plain h1 h2 h3
      rw [List.flatMap_cons, List.length_append]
      simp only [List.length_cons] at hn ⊢; omega
theorem quo_length (t : List UInt8) : (quo t).length = (t.flatMap esc).length + 2 := by simp [quo]

/-! ### numbers -/
theorem dec_short : ∀ (k u : Nat), 1 ≤ k → u < 10 ^ k → (Lib.decDigits u).length ≤ k
  | 0, u, h, _ => by omega
  | 1, u, _, h => by rw [Lib.decDigits, dif_pos (by simpa using h)]; simp
  | k + 2, u, _, h => by
    rw [Lib.decDigits]
    split
    · simp
    · have hk : u / 10 < 10 ^ (k + 1) := by
        rw [Nat.pow_succ] at h
        exact Nat.div_lt_of_lt_mul (by rw [Nat.mul_comm]; exact h)
      have := dec_short (k + 1) (u / 10) (by omega) hk
      simp; omega
theorem digGo_short : ∀ (ds : List UInt8) (n : Int) (k : Nat), (∀ c ∈ ds, isDig c = true) → 0 ≤ n → n < 10 ^ k → 0 ≤ digGo n ds ∧ digGo n ds < 10 ^ (k + ds.length)
  | [], n, k, _, h0, h1 => by simpa [digGo] using ⟨h0, h1⟩
  | c :: r, n, k, hc, h0, h1 => by
    have hd : 48 ≤ c.toNat ∧ c.toNat ≤ 57 := by
      have := hc c (by simp)
      simpa [isDig] using this
    rw [digGo]
    have e : (10 : Int) ^ (k + 1) = 10 * 10 ^ k := by rw [Int.pow_succ, Int.mul_comm]
    have := digGo_short r (min (10 * n + ((c.toNat : Int) - 48)) 9007199254740992) (k + 1) (fun x hx => hc x (by simp [hx])) (by omega) (by rw [e]; omega)
    rw [show k + (c :: r).length = k + 1 + r.length by simp; omega]
    exact this
theorem itoa_abs (m : Int) (u : Nat) (h : m.natAbs = u) : (Lib.itoa m).length = (Lib.decDigits u).length + (if m < 0 then 1 else 0) := by
  subst h
  unfold Lib.itoa
  split
  · simp
  · rw [show m.toNat = m.natAbs by omega]; simp
theorem numR_short (r : List UInt8) (m : Int) (q : List UInt8) (h : numR r = some (m, q)) : (Lib.itoa m).length + q.length ≤ r.length := by
  by_cases h0 : r.head? = some 48
  · obtain ⟨r1, rfl⟩ := head_cons h0
    simp [numR] at h
    obtain ⟨rfl, rfl⟩ := h
    rw [itoa_abs 0 0 rfl, Lib.decDigits, dif_pos (by omega)]; simp; omega
  obtain ⟨neg, hneg⟩ : ∃ neg, neg = decide (r.head? = some 45) := ⟨_, rfl⟩
  obtain ⟨r1, hr1⟩ : ∃ r1, r1 = if neg = true then r.tail else r := ⟨_, rfl⟩
  rw [numR_eq h0 neg hneg r1 hr1] at h
  by_cases hc : r1.takeWhile isDig = [] ∨ (r1.takeWhile isDig).head? = some 48
  · rw [if_pos hc] at h; cases h
  rw [if_neg hc] at h
  simp only [Option.some.injEq, Prod.mk.injEq] at h
  obtain ⟨hm, hq⟩ := h
  have hne : r1.takeWhile isDig ≠ [] := fun e => hc (.inl e)
  have hlen : (r1.takeWhile isDig).length + (r1.dropWhile isDig).length = r1.length := by
    rw [← List.length_append, List.takeWhile_append_dropWhile]
  have hpos : 1 ≤ (r1.takeWhile isDig).length := List.length_pos_iff.2 hne
  have hall : ∀ c ∈ r1.takeWhile isDig, isDig c = true := fun c hc => by
    have := List.all_takeWhile (p := isDig) (l := r1)
    exact List.all_eq_true.1 this c hc
  have hbd := digGo_short (r1.takeWhile isDig) 0 0 hall (by omega) (by decide)
  rw [Nat.zero_add] at hbd
  generalize r1.takeWhile isDig = ds at *
  generalize hu : digGo 0 ds = u at *
  have hnat : u.natAbs < 10 ^ ds.length := by
    have h2 : ((u.natAbs : Nat) : Int) < ((10 ^ ds.length : Nat) : Int) := by
      rw [Int.natCast_pow]
      have : ((u.natAbs : Nat) : Int) = u := by omega
      rw [this]; exact hbd.2
    exact Int.ofNat_lt.1 h2
  have hds := dec_short ds.length u.natAbs hpos hnat
  rw [← hq]
  cases hn : neg
  · rw [hn] at hm hr1
    simp at hm hr1
    subst hm hr1
    rw [itoa_abs u u.natAbs rfl, if_neg (by omega)]
    omega
  · rw [hn] at hm hr1 hneg
    simp at hm hr1
    subst hm
    have h45 : r.head? = some 45 := by simpa using hneg.symm
    obtain ⟨r2, rfl⟩ := head_cons h45
    simp at hr1
    subst hr1
    have hle : (Lib.itoa (-u)).length ≤ (Lib.decDigits u.natAbs).length + 1 := by
      rw [itoa_abs (-u) u.natAbs (by omega)]; split <;> omega
    simp; omega

/-! ### arrays and objects -/
def Shorts (f : List UInt8 → Option (JV × List UInt8)) : Prop := ∀ r v q, f r = some (v, q) → (jtext v).length + q.length ≤ r.length
theorem jarr_false (ps : List JV) : (jarr false ps).length ≤ (jarr true ps).length + 1 := by
  cases ps with
  | nil => simp [jarr]
  | cons p r => simp [jarr, sep] <;> omega
theorem arrL_short {f : List UInt8 → Option (JV × List UInt8)} (hf : Shorts f) : ∀ (k : Nat) (r : List UInt8) (ps : List JV) (q : List UInt8), arrL f k r = some (ps, q) → (jarr true ps).length + q.length + 1 ≤ r.length := by
  intro k
  induction k with
  | zero => intro r ps q h; cases h
  | succ k ih =>
    intro r ps q h0
    rcases arrL_cases f r with h | ⟨v, r1, r2, h, h3⟩ | ⟨v, r1, r2, h, h3⟩ | ⟨v, r1, h, h3, h4⟩
    · rw [arrL_none h] at h0; cases h0
    · rw [arrL_end h h3] at h0
      simp at h0
      have hs := hf _ _ _ h
      have hs2 := skip_cons_len h3
      obtain ⟨rfl, rfl⟩ := h0
      simp [jarr, sep]; omega
    · rw [arrL_more h h3] at h0
      simp only [Option.map_eq_some_iff] at h0
      obtain ⟨z, hz, hzz⟩ := h0
      have := ih _ z.1 z.2 hz
      have hs := hf _ _ _ h
      have hs2 := skip_cons_len h3
      have hj := jarr_false z.1
      simp at hzz
      obtain ⟨rfl, rfl⟩ := hzz
      simp [jarr, sep]; omega
    · rw [arrL_bad h h3 h4] at h0; cases h0
/-- The members' texts, with one sign more for each. -/
def wt : List (List UInt8) → List JV → Nat
  | k :: ks, p :: ps => (quo k).length + (jtext p).length + 2 + wt ks ps
  | _, _ => 0
theorem wt_insert (key : List UInt8) (v : JV) : ∀ (ks : List (List UInt8)) (ps : List JV) (i : Nat), ks.length = ps.length → i ≤ ks.length → wt (ks.insertIdx i key) (ps.insertIdx i v) = wt ks ps + (quo key).length + (jtext v).length + 2
  | ks, ps, 0, _, _ => by simp [wt]; omega
  | [], ps, i + 1, _, h => by simp at h
  | k :: ks, [], i + 1, h, _ => by simp at h
  | k :: ks, p :: ps, i + 1, h, hi => by
    have := wt_insert key v ks ps i (by simpa using h) (by simpa using hi)
    simp [wt, this]; omega
theorem jobj_wt : ∀ (f : Bool) (ks : List (List UInt8)) (ps : List JV), (jobj f ks ps).length ≤ wt ks ps
  | _, [], [] => by simp [jobj]
  | _, [], _ :: _ => by simp [jobj]
  | _, _ :: _, [] => by simp [jobj]
  | f, k :: ks, p :: ps => by
    have := jobj_wt false ks ps
    cases f <;> simp [jobj, wt, sep] <;> omega
theorem jobj_wt1 : ∀ (ks : List (List UInt8)) (ps : List JV), 0 < ks.length → ks.length = ps.length → (jobj true ks ps).length + 1 ≤ wt ks ps
  | [], _, h, _ => by simp at h
  | _ :: _, [], _, h => by simp at h
  | k :: ks, p :: ps, _, _ => by
    have := jobj_wt false ks ps
    simp [jobj, wt, sep]; omega
theorem objL_short {f : List UInt8 → Option (JV × List UInt8)} (hf : Shorts f) : ∀ (k : Nat) (r : List UInt8) (ks : List (List UInt8)) (ps : List JV) (ks' : List (List UInt8)) (ps' : List JV) (q : List UInt8), ks.length = ps.length →
    objL f k ks ps r = some (ks', ps', q) → wt ks' ps' + q.length ≤ r.length + wt ks ps ∧ ks'.length = ps'.length ∧ 0 < ks'.length := by
  intro k
  induction k with
  | zero => intro r ks ps ks' ps' q _ h; cases h
  | succ k ih =>
    intro r ks ps ks' ps' q hl h
    cases objStep f ks r with
    | bad h' => rw [h'] at h; cases h
    | last key v r0 r1 r2 r3 r4 h0 e1 e2 e3 e4 e5 =>
      subst h0
      rw [objL_last e1 e2 e3 e4 e5] at h
      simp at h
      obtain ⟨rfl, rfl, rfl⟩ := h
      have a0 : place ks key ≤ ks.length := List.Sublist.length_le (List.takeWhile_sublist _)
      have a1 := strR_short _ _ _ e1
      have a2 := skip_cons_len e2
      have a3 := hf _ _ _ e3
      have a4 := skip_cons_len e5
      have a5 := wt_insert key v ks ps (place ks key) hl a0
      have a6 := quo_length key
      rw [a5, List.length_insertIdx_of_le_length a0, List.length_insertIdx_of_le_length (by omega)]
      simp; omega
    | more key v r0 r1 r2 r3 r4 h0 e1 e2 e3 e4 e5 =>
      subst h0
      rw [objL_more e1 e2 e3 e4 e5] at h
      have a0 : place ks key ≤ ks.length := List.Sublist.length_le (List.takeWhile_sublist _)
      have b := ih _ _ _ _ _ _ (by rw [List.length_insertIdx_of_le_length a0, List.length_insertIdx_of_le_length (by omega), hl]) h
      have a1 := strR_short _ _ _ e1
      have a2 := skip_cons_len e2
      have a3 := hf _ _ _ e3
      have a4 := skip_cons_len e5
      have a5 := wt_insert key v ks ps (place ks key) hl a0
      have a6 := quo_length key
      refine ⟨?_, b.2⟩
      have := b.1
      simp; omega
theorem pre_len {r p : List UInt8} (h : Lib.hasPrefix r p = true) : (r.drop p.length).length + p.length = r.length := by
  obtain ⟨q, hq⟩ := hasPrefix_len h
  rw [hq]; simp; omega
theorem pv_shorts : ∀ n, Shorts (pv n)
  | 0 => fun r v q h => by cases h
  | n + 1 => fun r v q h => by
    have ih := pv_shorts n
    cases h1 : Lib.hasPrefix r tNull with
    | true =>
      rw [pv_null h1] at h; simp at h; obtain ⟨rfl, rfl⟩ := h
      have := pre_len h1
      rw [jtext]; simp [tNull] at this ⊢; omega
    | false =>
    cases h2 : Lib.hasPrefix r tFalse with
    | true =>
      rw [pv_false h1 h2] at h; simp at h; obtain ⟨rfl, rfl⟩ := h
      have := pre_len h2
      rw [jtext]; simp [tFalse] at this ⊢; omega
    | false =>
    cases h3 : Lib.hasPrefix r tTrue with
    | true =>
      rw [pv_true h1 h2 h3] at h; simp at h; obtain ⟨rfl, rfl⟩ := h
      have := pre_len h3
      rw [jtext]; simp [tTrue] at this ⊢; omega
    | false =>
    cases h4 : Lib.hasPrefix r [34] with
    | true =>
      rw [pv_str h1 h2 h3 h4] at h
      obtain ⟨r0, rfl⟩ := head_cons ((hasPrefix_one 34 r).1 h4)
      simp only [Option.map_eq_some_iff] at h
      obtain ⟨z, hz, hzz⟩ := h
      simp at hzz
      obtain ⟨rfl, rfl⟩ := hzz
      have := strR_short _ _ _ hz
      rw [jtext]
      simp [quo] at this ⊢; omega
    | false =>
    by_cases h5 : (skip r).head? = some 91
    · obtain ⟨r1, h5⟩ := head_cons h5
      rw [pv_arr h1 h2 h3 h4 h5] at h
      simp only [Option.map_eq_some_iff] at h
      obtain ⟨z, hz, hzz⟩ := h
      have a1 := skip_cons_len h5
      simp at hzz
      obtain ⟨rfl, rfl⟩ := hzz
      rw [jtext]
      by_cases h6 : (skip r1).head? = some 93
      · obtain ⟨r2, h6⟩ := head_cons h6
        rw [arrR_end h6] at hz
        simp at hz
        have a2 := skip_cons_len h6
        have a3 := skip_len r
        rw [h5] at a3
        rw [← hz]
        simp [jarr] at a3 ⊢; omega
      · rw [arrR_more h6] at hz
        have := arrL_short ih _ _ z.1 z.2 hz
        simp; omega
    by_cases h6 : (skip r).head? = some 123
    · obtain ⟨r1, h6⟩ := head_cons h6
      rw [pv_obj h1 h2 h3 h4 h6] at h
      simp only [Option.map_eq_some_iff] at h
      obtain ⟨z, hz, hzz⟩ := h
      have a1 := skip_cons_len h6
      simp at hzz
      obtain ⟨rfl, rfl⟩ := hzz
      rw [jtext]
      by_cases h7 : (skip r1).head? = some 125
      · obtain ⟨r2, h7⟩ := head_cons h7
        rw [objR_end h7] at hz
        simp at hz
        have a2 := skip_cons_len h7
        have a3 := skip_len r
        rw [h6] at a3
        rw [← hz]
        simp [jobj] at a3 ⊢; omega
      · rw [objR_more h7] at hz
        obtain ⟨b1, b2, b3⟩ := objL_short ih _ _ _ _ z.1 z.2.1 z.2.2 rfl hz
        have b4 := jobj_wt1 z.1 z.2.1 b3 b2
        simp [wt] at b1
        simp; omega
    · rw [pv_num h1 h2 h3 h4 h5 h6] at h
      simp only [Option.map_eq_some_iff] at h
      obtain ⟨z, hz, hzz⟩ := h
      simp at hzz
      obtain ⟨rfl, rfl⟩ := hzz
      have := numR_short _ _ _ hz
      have := skip_len r
      rw [jtext]
      simp; omega
theorem readR_short {s : List UInt8} {v : JV} (h : readR s = some v) : (jtext v).length ≤ s.length := by
  cases hp : pv (s.length + 1) (skip s) with
  | none => rw [readR_none hp] at h; cases h
  | some x =>
    obtain ⟨v', r⟩ := x
    rw [readR_some hp] at h
    split at h
    · injection h with h
      subst h
      have := pv_shorts _ _ _ _ hp
      have := skip_len s
      omega
    · cases h
end Go.Proofs.YtbinoohmblkibaaDoor
