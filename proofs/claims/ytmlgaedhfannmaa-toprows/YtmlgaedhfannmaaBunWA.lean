/- Joined texts: WlM, WlScM, WlSum, WlFrm. -/
import Derived.Test.YtmlgaedhfannmaaBunA
import Derived.Test.YtmlgaedhfannmaaOwnB
/- Package wal: the mathematics: checksums, frames, batches; what a scan of packed batches returns, of a beginning of them, and of changed ones. -/
namespace Go.Proofs.Ytmlgaedhfannmaa
set_option linter.unusedVariables false
set_option linter.unusedSimpArgs false
/-! ### the two sums -/
/-- One byte more. -/
def smStep (p : Nat × Nat) (x : UInt8) : Nat × Nat := ((p.1 + x.toNat + 1) % 251, (p.2 + (p.1 + x.toNat + 1) % 251) % 251)
def sums (l : List UInt8) : Nat × Nat := l.foldl smStep (0, 0)
theorem sums_snoc (l : List UInt8) (x : UInt8) : sums (l ++ [x]) = smStep (sums l) x := by unfold sums; rw [List.foldl_append]; rfl
theorem smStep_lt (p : Nat × Nat) (x : UInt8) : (smStep p x).1 < 251 ∧ (smStep p x).2 < 251 := ⟨Nat.mod_lt _ (by decide), Nat.mod_lt _ (by decide)⟩
theorem foldl_lt (l : List UInt8) (p : Nat × Nat) (h : p.1 < 251 ∧ p.2 < 251) : (l.foldl smStep p).1 < 251 ∧ (l.foldl smStep p).2 < 251 := by
  induction l generalizing p with
  | nil => exact h
  | cons x r ih => exact ih _ (smStep_lt p x)
theorem sums_lt (l : List UInt8) : (sums l).1 < 251 ∧ (sums l).2 < 251 := foldl_lt l _ ⟨by decide, by decide⟩
/-- The closed form: the first sum. -/
def sumA : List UInt8 → Nat
  | [] => 0
  | x :: r => sumA r + (x.toNat + 1)
/-- The closed form: each byte as often as there are bytes from it on. -/
def sumB : List UInt8 → Nat
  | [] => 0
  | x :: r => sumB r + (r.length + 1) * (x.toNat + 1)
theorem sumA_snoc (l : List UInt8) (x : UInt8) : sumA (l ++ [x]) = sumA l + (x.toNat + 1) := by
  induction l with
  | nil => simp [sumA]
  | cons y r ih => simp only [List.cons_append, sumA, ih]; omega
theorem sumB_snoc (l : List UInt8) (x : UInt8) : sumB (l ++ [x]) = sumB l + sumA l + (x.toNat + 1) := by
  induction l with
  | nil => simp [sumB, sumA]
  | cons y r ih =>
    simp only [List.cons_append, sumA, sumB, ih, List.length_append, List.length_cons, List.length_nil]
    simp only [Nat.zero_add, Nat.add_mul, Nat.one_mul]
    omega
theorem sums_eq (l : List UInt8) : sums l = (sumA l % 251, sumB l % 251) := by
  have key : ∀ n, ∀ l : List UInt8, l.length = n → sums l = (sumA l % 251, sumB l % 251) := by
    intro n
    induction n with
    | zero => intro l h; rw [List.eq_nil_of_length_eq_zero h]; rfl
    | succ n ih =>
      intro l h
      have hne : l ≠ [] := by intro h0; subst h0; simp at h
      obtain ⟨a, x, rfl⟩ : ∃ a x, l = a ++ [x] := ⟨l.dropLast, l.getLast hne, (List.dropLast_concat_getLast hne).symm⟩
      rw [sums_snoc, ih a (by simpa using h), sumA_snoc, sumB_snoc]
      unfold smStep
      refine Prod.ext ?_ ?_ <;> simp only <;> omega
  exact key _ l rfl

/-! ### frames -/
def frm (f : UInt8) (r : List UInt8) : List UInt8 :=
  let h := UInt8.ofNat r.length :: f :: r
  h ++ [UInt8.ofNat (sums h).1, UInt8.ofNat (sums h).2]
theorem frm_len (f : UInt8) (r : List UInt8) : (frm f r).length = r.length + 4 := by simp [frm]
def okRec (r : List UInt8) : Prop := 1 ≤ r.length ∧ r.length ≤ 60
/-- The frames of the records from the i-th of n on. -/
def flagOf (n i : Nat) : UInt8 := if i + 1 = n then 1 else 0
def pkT (n : Nat) : Nat → List (List UInt8) → List UInt8
  | _, [] => []
  | i, r :: t => frm (flagOf n i) r ++ pkT n (i + 1) t
def pack (b : List (List UInt8)) : List UInt8 := pkT b.length 0 b
theorem pkT_snoc (n i : Nat) (l : List (List UInt8)) (r : List UInt8) : pkT n i (l ++ [r]) = pkT n i l ++ frm (flagOf n (i + l.length)) r := by
  induction l generalizing i with
  | nil => simp [pkT]
  | cons x t ih =>
    simp only [List.cons_append, pkT, ih, List.length_cons, List.append_assoc]
    rw [show i + 1 + t.length = i + (t.length + 1) by omega]
/-- The first frame: its record, whether it is the last of its batch, what stands behind it. -/
def ff (b : List UInt8) : Option (List UInt8 × Bool × List UInt8) :=
  match b with
  | n :: f :: rest =>
    if 1 ≤ n.toNat ∧ n.toNat ≤ 60 ∧ f.toNat ≤ 1 ∧ n.toNat + 2 ≤ rest.length ∧
        (rest.drop n.toNat).take 2 = [UInt8.ofNat (sums (n :: f :: rest.take n.toNat)).1, UInt8.ofNat (sums (n :: f :: rest.take n.toNat)).2]
    then some (rest.take n.toNat, f.toNat == 1, rest.drop (n.toNat + 2)) else none
  | _ => none
theorem u8_eq {a b : UInt8} (h : a.toNat = b.toNat) : a = b := UInt8.toNat_inj.1 h
theorem u8_ofNat {a : UInt8} {n : Nat} (h : a.toNat = n) : a = UInt8.ofNat n := by
  apply u8_eq
  have := a.toNat_lt
  rw [UInt8.toNat_ofNat', Nat.mod_eq_of_lt (by omega), h]
theorem take_drop2 (l : List UInt8) (n : Nat) : l = l.take n ++ ((l.drop n).take 2 ++ l.drop (n + 2)) := by
  rw [← List.drop_drop, List.take_append_drop, List.take_append_drop]
/-- What is read is a frame. -/
theorem ff_some {b r b' : List UInt8} {last : Bool} (h : ff b = some (r, last, b')) : okRec r ∧ b = frm (if last then 1 else 0) r ++ b' := by
  match b, h with
  | n :: f :: rest, h =>
    simp only [ff] at h
    split at h
    case isFalse => cases h
    case isTrue hc =>
      obtain ⟨h1, h2, h3, h4, h5⟩ := hc
      injection h with h
      injection h with hr h
      injection h with hl hb
      have hlen : r.length = n.toNat := by rw [← hr, List.length_take]; omega
      refine ⟨⟨by omega, by omega⟩, ?_⟩
      have hn : UInt8.ofNat r.length = n := (u8_ofNat hlen.symm).symm
      have hf : (if last = true then (1 : UInt8) else 0) = f := by
        rw [← hl]
        rcases (show f.toNat = 0 ∨ f.toNat = 1 by omega) with h0 | h0
        · rw [h0]; exact (u8_ofNat h0).symm
        · rw [h0]; exact (u8_ofNat h0).symm
      unfold frm
      rw [hf, hn, ← hb, ← hr]
      simp only [List.cons_append, List.append_assoc]
      refine congrArg _ (congrArg _ ?_)
      have h6 := take_drop2 rest n.toNat
      rw [h5] at h6
      exact h6
theorem ff_frm (r d : List UInt8) (f : UInt8) (hr : okRec r) (hf : f.toNat ≤ 1) : ff (frm f r ++ d) = some (r, f.toNat == 1, d) := by
  obtain ⟨h1, h2⟩ := hr
  have hn : (UInt8.ofNat r.length).toNat = r.length := by rw [UInt8.toNat_ofNat']; exact Nat.mod_eq_of_lt (by omega)
  simp only [frm, List.cons_append, List.append_assoc, ff, hn]
  have e1 : (r ++ ([UInt8.ofNat (sums (UInt8.ofNat r.length :: f :: r)).1, UInt8.ofNat (sums (UInt8.ofNat r.length :: f :: r)).2] ++ d)).take r.length = r := by simp
  have e2 : (r ++ ([UInt8.ofNat (sums (UInt8.ofNat r.length :: f :: r)).1, UInt8.ofNat (sums (UInt8.ofNat r.length :: f :: r)).2] ++ d)).drop (r.length + 2) = d := by
    rw [← List.drop_drop]; simp
  simp only [List.cons_append, List.nil_append] at e1 e2 ⊢
  rw [e1, e2, if_pos]
  refine ⟨h1, h2, hf, by simp, by simp⟩
theorem ff_len {b r b' : List UInt8} {last : Bool} (h : ff b = some (r, last, b')) : b.length = r.length + 4 + b'.length := by
  obtain ⟨_, rfl⟩ := ff_some h
  rw [List.length_append, frm_len]
/-- A frame that is not whole is none. -/
theorem ff_short (r d : List UInt8) (f : UInt8) (hr : okRec r) (k : Nat) (hk : k < r.length + 4) : ff ((frm f r ++ d).take k) = none := by
  obtain ⟨h1, h2⟩ := hr
  have hn : (UInt8.ofNat r.length).toNat = r.length := by rw [UInt8.toNat_ofNat']; exact Nat.mod_eq_of_lt (by omega)
  match k, hk with
  | 0, _ => simp [ff]
  | 1, _ => simp [frm, ff]
  | k + 2, hk =>
    simp only [frm, List.cons_append, List.append_assoc, List.take_succ_cons, ff, hn]
    rw [if_neg]
    rintro ⟨_, _, _, h4, _⟩
    rw [List.length_take] at h4
    omega

/-! ### the scan -/
/-- The batches and the used bytes, where 'read' bytes are read, 'used' of them used, 'cur' is the batch under way, 'acc' the whole ones. -/
def scn (b : List UInt8) (read used : Nat) (cur : List (List UInt8)) (acc : List (List (List UInt8))) : List (List (List UInt8)) × Nat :=
  match h : ff b with
  | none => (acc, used)
  | some (r, last, b') =>
    if last then scn b' (read + (r.length + 4)) (read + (r.length + 4)) [] (acc ++ [cur ++ [r]])
    else scn b' (read + (r.length + 4)) used (cur ++ [r]) acc
termination_by b.length
decreasing_by all_goals (have := ff_len h; omega)
theorem scn_none {b : List UInt8} {read used : Nat} {cur : List (List UInt8)} {acc : List (List (List UInt8))} (h : ff b = none) : scn b read used cur acc = (acc, used) := by
  rw [scn]; split
  · rfl
  · rename_i h2; rw [h] at h2; cases h2
theorem scn_some {b r b' : List UInt8} {last : Bool} {read used : Nat} {cur : List (List UInt8)} {acc : List (List (List UInt8))} (h : ff b = some (r, last, b')) :
    scn b read used cur acc = if last then scn b' (read + (r.length + 4)) (read + (r.length + 4)) [] (acc ++ [cur ++ [r]]) else scn b' (read + (r.length + 4)) used (cur ++ [r]) acc := by
  rw [scn]; split
  · rename_i h2; rw [h] at h2; cases h2
  · rename_i r2 l2 b2 h2
    rw [h] at h2
    injection h2 with h2
    injection h2 with e1 h2
    injection h2 with e2 e3
    subst e1 e2 e3
    rfl
/-- Scan. -/
def scan (b : List UInt8) : List (List (List UInt8)) × Nat := scn b 0 0 [] []
theorem flag_le (n i : Nat) : (flagOf n i).toNat ≤ 1 := by unfold flagOf; split <;> decide
theorem flag_last (n i : Nat) : ((flagOf n i).toNat == 1) = decide (i + 1 = n) := by unfold flagOf; split <;> simp [*]
/-- The rest of a batch, and what stands behind it. -/
theorem scn_pkT (l : List (List UInt8)) (hne : l ≠ []) (hok : ∀ r ∈ l, okRec r) (n i : Nat) (hn : i + l.length = n) (d : List UInt8) (read used : Nat) (cur : List (List UInt8)) (acc : List (List (List UInt8))) :
    scn (pkT n i l ++ d) read used cur acc = scn d (read + (pkT n i l).length) (read + (pkT n i l).length) [] (acc ++ [cur ++ l]) := by
  induction l generalizing i read used cur with
  | nil => exact absurd rfl hne
  | cons r t ih =>
    have hr := hok r (by simp)
    simp only [pkT, List.append_assoc]
    rw [scn_some (ff_frm r _ _ hr (flag_le n i)), flag_last]
    by_cases ht : t = []
    · subst ht
      simp only [List.length_cons, List.length_nil] at hn
      rw [decide_eq_true hn, if_pos rfl]
      simp [pkT, frm_len]
    · have h0 : 0 < t.length := List.length_pos_iff.2 ht
      simp only [List.length_cons] at hn
      rw [decide_eq_false (by omega), if_neg (by decide), ih ht (fun x hx => hok x (by simp [hx])) (i + 1) (by omega)]
      rw [List.length_append, frm_len]
      rw [show read + (r.length + 4) + (pkT n (i + 1) t).length = read + (r.length + 4 + (pkT n (i + 1) t).length) by omega]
      simp
def okBatch (b : List (List UInt8)) : Prop := b ≠ [] ∧ ∀ r ∈ b, okRec r
def packs (bs : List (List (List UInt8))) : List UInt8 := (bs.map pack).flatten
theorem packs_snoc (bs : List (List (List UInt8))) (b : List (List UInt8)) : packs (bs ++ [b]) = packs bs ++ pack b := by simp [packs]
theorem packs_app (x y : List (List (List UInt8))) : packs (x ++ y) = packs x ++ packs y := by simp [packs]
/-- Whole batches, and what stands behind them. -/
theorem scn_packs (bs : List (List (List UInt8))) (hok : ∀ b ∈ bs, okBatch b) (d : List UInt8) (read : Nat) (acc : List (List (List UInt8))) :
    scn (packs bs ++ d) read read [] acc = scn d (read + (packs bs).length) (read + (packs bs).length) [] (acc ++ bs) := by
  induction bs generalizing read acc with
  | nil => simp [packs]
  | cons b t ih =>
    obtain ⟨h1, h2⟩ := hok b (by simp)
    have e : packs (b :: t) = pack b ++ packs t := by simp [packs]
    rw [e, List.append_assoc]
    unfold pack
    rw [scn_pkT b h1 h2 _ 0 (by omega), ih (fun x hx => hok x (by simp [hx]))]
    simp [Nat.add_assoc]
/-- The count of the bytes read may begin anywhere. -/
theorem scn_shift (b : List UInt8) (read used : Nat) (cur : List (List UInt8)) (acc : List (List (List UInt8))) (m : Nat) (pre : List (List (List UInt8))) :
    scn b (m + read) (m + used) cur (pre ++ acc) = (pre ++ (scn b read used cur acc).1, m + (scn b read used cur acc).2) := by
  have key : ∀ n, ∀ b : List UInt8, b.length = n → ∀ read used cur acc, scn b (m + read) (m + used) cur (pre ++ acc) = (pre ++ (scn b read used cur acc).1, m + (scn b read used cur acc).2) := by
    intro n
    induction n using Nat.strongRecOn with
    | _ n ih =>
      intro b hb read used cur acc
      cases hf : ff b with
      | none => rw [scn_none hf, scn_none hf]
      | some x =>
        obtain ⟨r, last, b'⟩ := x
        have hl := ff_len hf
        rw [scn_some hf, scn_some hf]
        cases last
        · simp only [Bool.false_eq_true, if_false]
          rw [← ih b'.length (by omega) b' rfl, Nat.add_assoc]
        · simp only [if_true]
          rw [← ih b'.length (by omega) b' rfl, Nat.add_assoc, List.append_assoc]
  exact key _ b rfl read used cur acc
/-- What a scan returns are frames: it has read packed batches. -/
theorem scn_reads (b : List UInt8) (read used : Nat) (cur : List (List UInt8)) (acc : List (List (List UInt8))) (hcur : ∀ r ∈ cur, okRec r) (pre : List UInt8)
    (hpre : pre.length = read) (hused : used ≤ read) (hacc : ∀ x ∈ acc, okBatch x) (hp : pre = packs acc ++ pkT (cur.length + 1) 0 cur) (hu : used = (packs acc).length) :
    (∀ x ∈ (scn b read used cur acc).1, okBatch x) ∧ (∃ d, pre ++ b = packs (scn b read used cur acc).1 ++ d) ∧ (scn b read used cur acc).2 = (packs (scn b read used cur acc).1).length := by
  have key : ∀ n, ∀ b : List UInt8, b.length = n → ∀ read used cur acc pre, (∀ r ∈ cur, okRec r) → pre.length = read → used ≤ read → (∀ x ∈ acc, okBatch x) → pre = packs acc ++ pkT (cur.length + 1) 0 cur → used = (packs acc).length →
      (∀ x ∈ (scn b read used cur acc).1, okBatch x) ∧ (∃ d, pre ++ b = packs (scn b read used cur acc).1 ++ d) ∧ (scn b read used cur acc).2 = (packs (scn b read used cur acc).1).length := by
    intro n
    induction n using Nat.strongRecOn with
    | _ n ih =>
      intro b hb read used cur acc pre h1 h2 h3 h4 h5 h6
      cases hf : ff b with
      | none => rw [scn_none hf]; exact ⟨h4, ⟨pkT (cur.length + 1) 0 cur ++ b, by rw [h5, List.append_assoc]⟩, h6⟩
      | some x =>
        obtain ⟨r, last, b'⟩ := x
        have hl := ff_len hf
        obtain ⟨hr, hbe⟩ := ff_some hf
        have hc : ∀ x ∈ cur ++ [r], okRec x := by
          intro x hx
          rcases List.mem_append.1 hx with h | h
          · exact h1 x h
          · simp at h; subst h; exact hr
        rw [scn_some hf]
        cases last
        · simp only [Bool.false_eq_true, if_false] at hbe ⊢
          have := ih b'.length (by omega) b' rfl (read + (r.length + 4)) used (cur ++ [r]) acc (pre ++ frm 0 r) hc (by rw [List.length_append, frm_len]; omega) (by omega) h4
            (by
              rw [h5, List.append_assoc, pkT_snoc]
              have e1 : flagOf ((cur ++ [r]).length + 1) (0 + cur.length) = 0 := by unfold flagOf; rw [if_neg (by simp)]
              have e2 : ∀ (l : List (List UInt8)) (i n m : Nat), i + l.length < n → i + l.length < m → pkT n i l = pkT m i l := by
                intro l
                induction l with
                | nil => intros; rfl
                | cons y t iht =>
                  intro i n m hn hm
                  simp only [List.length_cons] at hn hm
                  simp only [pkT]
                  rw [iht (i + 1) n m (by omega) (by omega)]
                  have : flagOf n i = flagOf m i := by unfold flagOf; rw [if_neg (by omega), if_neg (by omega)]
                  rw [this]
              rw [e1, e2 cur 0 (cur.length + 1) ((cur ++ [r]).length + 1) (by omega) (by simp; omega)]) h6
          rw [List.append_assoc, ← hbe] at this
          exact this
        · simp only [if_true] at hbe ⊢
          have e1 : pack (cur ++ [r]) = pkT (cur.length + 1) 0 cur ++ frm 1 r := by
            unfold pack
            rw [pkT_snoc, List.length_append, List.length_singleton]
            have : flagOf (cur.length + 1) (0 + cur.length) = 1 := by unfold flagOf; rw [if_pos (by omega)]
            rw [this]
          have e2 : pre ++ frm 1 r = packs (acc ++ [cur ++ [r]]) := by rw [packs_snoc, e1, h5, List.append_assoc]
          have := ih b'.length (by omega) b' rfl (read + (r.length + 4)) (read + (r.length + 4)) [] (acc ++ [cur ++ [r]]) (pre ++ frm 1 r) (by simp) (by rw [List.length_append, frm_len]; omega) (by omega)
            (by
              intro x hx
              rcases List.mem_append.1 hx with h | h
              · exact h4 x h
              · simp at h; subst h; exact ⟨by simp, hc⟩)
            (by rw [e2]; simp [pkT]) (by rw [← e2, List.length_append, frm_len]; omega)
          rw [List.append_assoc, ← hbe] at this
          exact this
  exact key _ b rfl read used cur acc pre hcur hpre hused hacc hp hu
theorem scan_reads (b : List UInt8) : (∀ x ∈ (scan b).1, okBatch x) ∧ (∃ d, b = packs (scan b).1 ++ d) ∧ (scan b).2 = (packs (scan b).1).length := by
  have := scn_reads b 0 0 [] [] (by simp) [] rfl (by omega) (by simp) (by simp [packs, pkT]) rfl
  rw [List.nil_append] at this
  exact this
theorem scan_packs (bs : List (List (List UInt8))) (hok : ∀ b ∈ bs, okBatch b) (d : List UInt8) : scan (packs bs ++ d) = (bs ++ (scan d).1, (packs bs).length + (scan d).2) := by
  unfold scan
  rw [scn_packs bs hok d 0 []]
  have := scn_shift d 0 0 [] [] (packs bs).length bs
  simpa using this
theorem scan_nil : scan [] = ([], 0) := by unfold scan; rw [scn_none rfl]
theorem scan_whole (bs : List (List (List UInt8))) (hok : ∀ b ∈ bs, okBatch b) : scan (packs bs) = (bs, (packs bs).length) := by
  have := scan_packs bs hok []
  rw [scan_nil] at this
  simpa using this
/-- Of a beginning of a batch nothing is told. -/
theorem scn_torn (l : List (List UInt8)) (hok : ∀ r ∈ l, okRec r) (n i : Nat) (hn : i + l.length = n) (k : Nat) (hk : k < (pkT n i l).length) (read used : Nat) (cur : List (List UInt8)) (acc : List (List (List UInt8))) :
    scn ((pkT n i l).take k) read used cur acc = (acc, used) := by
  induction l generalizing i k read cur with
  | nil => simp [pkT] at hk
  | cons r t ih =>
    have hr := hok r (by simp)
    simp only [pkT] at hk ⊢
    rcases Nat.lt_or_ge k (r.length + 4) with hlt | hge
    · rw [scn_none (ff_short r _ _ hr k hlt)]
    · rw [List.take_append, frm_len, List.take_of_length_le (by rw [frm_len]; omega), scn_some (ff_frm r _ _ hr (flag_le n i)), flag_last]
      rw [List.length_append, frm_len] at hk
      have ht : t ≠ [] := by intro h; subst h; simp [pkT] at hk; omega
      have h0 : 0 < t.length := List.length_pos_iff.2 ht
      simp only [List.length_cons] at hn
      rw [decide_eq_false (by omega), if_neg (by decide)]
      exact ih (fun x hx => hok x (by simp [hx])) (i + 1) (by omega) _ (by omega) _ _
/-- How many batches end within the first k bytes. -/
theorem scan_torn (bs : List (List (List UInt8))) (hok : ∀ b ∈ bs, okBatch b) (n k : Nat) (hn : n ≤ bs.length) (h1 : (packs (bs.take n)).length ≤ k) (h2 : n < bs.length → k < (packs (bs.take (n + 1))).length) (hk : k ≤ (packs bs).length) :
    scan ((packs bs).take k) = (bs.take n, (packs (bs.take n)).length) := by
  have hok1 : ∀ b ∈ bs.take n, okBatch b := fun b hb => hok b (List.mem_of_mem_take hb)
  have e0 : packs bs = packs (bs.take n) ++ packs (bs.drop n) := by rw [← packs_app, List.take_append_drop]
  rw [e0, List.take_append, List.take_of_length_le h1, scan_packs _ hok1]
  suffices h : scan ((packs (bs.drop n)).take (k - (packs (bs.take n)).length)) = ([], 0) by rw [h]; simp
  rcases Nat.lt_or_ge n bs.length with hlt | hge
  · have e1 : bs.drop n = bs[n] :: bs.drop (n + 1) := List.drop_eq_getElem_cons hlt
    have e2 : bs.take (n + 1) = bs.take n ++ [bs[n]] := by rw [List.take_add_one, List.getElem?_eq_getElem hlt]; rfl
    have h3 := h2 hlt
    rw [e2, packs_snoc, List.length_append] at h3
    have e3 : packs (bs.drop n) = pack bs[n] ++ packs (bs.drop (n + 1)) := by rw [e1]; unfold packs; rw [List.map_cons, List.flatten_cons]
    rw [e3, List.take_append_of_le_length (by omega)]
    have hb := hok bs[n] (List.getElem_mem hlt)
    unfold scan pack
    exact scn_torn bs[n] hb.2 _ 0 (by omega) _ (by unfold pack at h3; omega) _ _ _ _
  · rw [List.drop_eq_nil_of_le hge]
    simp [packs, scan_nil]
/-- What is used of a beginning is no more. -/
theorem scan_less (b : List UInt8) (k : Nat) : (scan (b.take k)).2 ≤ (scan b).2 := by
  obtain ⟨h1, ⟨d, h2⟩, h3⟩ := scan_reads (b.take k)
  have e : b = packs (scan (b.take k)).1 ++ (d ++ b.drop k) := by
    rw [← List.append_assoc, ← h2, List.take_append_drop]
  rw [h3]
  have := scan_packs (scan (b.take k)).1 h1 (d ++ b.drop k)
  rw [← e] at this
  rw [this]
  simp only
  omega
/-- What is used tells the same. -/
theorem scan_used (b : List UInt8) : (scan b).2 ≤ b.length ∧ scan (b.take (scan b).2) = scan b := by
  obtain ⟨h1, ⟨d, h2⟩, h3⟩ := scan_reads b
  have hl : b.length = (packs (scan b).1).length + d.length := by
    have := congrArg List.length h2
    rwa [List.length_append] at this
  refine ⟨by omega, ?_⟩
  have e : b.take (scan b).2 = packs (scan b).1 := by
    rw [h3]
    have : (packs (scan b).1 ++ d).take (packs (scan b).1).length = packs (scan b).1 := List.take_left
    rw [← h2] at this
    exact this
  rw [e, scan_whole _ h1]
  exact Prod.ext rfl h3.symm
/-- Other bytes of the same number tell other batches. -/
theorem scan_other (bs : List (List (List UInt8))) (c : List UInt8) (hl : c.length = (packs bs).length) (h : (scan c).1 = bs) : c = packs bs := by
  obtain ⟨_, ⟨d, h2⟩, h3⟩ := scan_reads c
  rw [h] at h2
  have h4 : c.length = (packs bs).length + d.length := by
    have := congrArg List.length h2
    rwa [List.length_append] at this
  have : d = [] := List.eq_nil_of_length_eq_zero (by omega)
  rw [h2, this, List.append_nil]
theorem pack_len (b : List (List UInt8)) : (pack b).length = (b.map (fun r => r.length + 4)).sum := by
  have key : ∀ (l : List (List UInt8)) n i, (pkT n i l).length = (l.map (fun r => r.length + 4)).sum := by
    intro l
    induction l with
    | nil => intros; rfl
    | cons r t ih => intro n i; simp only [pkT, List.length_append, frm_len, ih, List.map_cons, List.sum_cons]
  exact key b _ _
end Go.Proofs.Ytmlgaedhfannmaa

/- Package wal: the first frame, test by test. -/
namespace Go.Proofs.Ytmlgaedhfannmaa
set_option linter.unusedVariables false
set_option linter.unusedSimpArgs false
open Go.RowKit
theorem ff_no1 {x f : UInt8} {rest : List UInt8} (h : ¬ (1 ≤ x.toNat ∧ x.toNat ≤ 60)) : ff (x :: f :: rest) = none := by
  simp only [ff]; rw [if_neg]; rintro ⟨h1, h2, _⟩; exact h ⟨h1, h2⟩
theorem ff_no2 {x f : UInt8} {rest : List UInt8} (h : 1 < f.toNat) : ff (x :: f :: rest) = none := by
  simp only [ff]; rw [if_neg]; rintro ⟨_, _, h1, _⟩; omega
theorem ff_no3 {x f : UInt8} {rest : List UInt8} (h : rest.length < x.toNat + 2) : ff (x :: f :: rest) = none := by
  simp only [ff]; rw [if_neg]; rintro ⟨_, _, _, h1, _⟩; omega
theorem ff_no0 {b : List UInt8} (h : b.length < 5) : ff b = none := by
  match b, h with
  | [], _ => rfl
  | [x], _ => rfl
  | x :: f :: rest, h =>
    simp only [ff]; rw [if_neg]; rintro ⟨h1, _, _, h2, _⟩; simp at h; omega
theorem two_of (l : List UInt8) (n : Nat) (h : n + 2 ≤ l.length) : (l.drop n).take 2 = [l[n]'(by omega), l[n + 1]'(by omega)] := by
  rw [List.drop_eq_getElem_cons (show n < l.length by omega), List.drop_eq_getElem_cons (show n + 1 < l.length by omega)]
  rfl
theorem u8_is {a : UInt8} {n : Nat} (hn : n < 251) : a = UInt8.ofNat n ↔ a.toNat = n := by
  constructor
  · intro h; rw [h, UInt8.toNat_ofNat', Nat.mod_eq_of_lt (by omega)]
  · exact u8_ofNat
theorem ff_sum {x f : UInt8} {rest : List UInt8} (h1 : 1 ≤ x.toNat) (h2 : x.toNat ≤ 60) (h3 : f.toNat ≤ 1) (h4 : x.toNat + 2 ≤ rest.length) :
    ff (x :: f :: rest) = if (sums (x :: f :: rest.take x.toNat)).1 = (rest[x.toNat]'(by omega)).toNat ∧ (sums (x :: f :: rest.take x.toNat)).2 = (rest[x.toNat + 1]'(by omega)).toNat then some (rest.take x.toNat, f.toNat == 1, rest.drop (x.toNat + 2)) else none := by
  have hs := sums_lt (x :: f :: rest.take x.toNat)
  simp only [ff, two_of rest x.toNat h4]
  by_cases hc : (sums (x :: f :: rest.take x.toNat)).1 = (rest[x.toNat]'(by omega)).toNat ∧ (sums (x :: f :: rest.take x.toNat)).2 = (rest[x.toNat + 1]'(by omega)).toNat
  · rw [if_pos hc, if_pos]
    refine ⟨h1, h2, h3, h4, ?_⟩
    rw [(u8_is hs.1).2 hc.1.symm, (u8_is hs.2).2 hc.2.symm]
  · rw [if_neg hc, if_neg]
    rintro ⟨_, _, _, _, h⟩
    injection h with e1 h
    injection h with e2 _
    exact hc ⟨((u8_is hs.1).1 e1).symm, ((u8_is hs.2).1 e2).symm⟩
end Go.Proofs.Ytmlgaedhfannmaa

/- Package wal: the checksum; the reference's two sums. -/
namespace Go.Proofs.Ytmlgaedhfannmaa
set_option linter.unusedVariables false
set_option linter.unusedSimpArgs false
open Go.RowKit
theorem ret_a2 {fn : Func} {R : Ending → World → Prop} {a : Act} {W : World} {g : Nat} {s1 : Tmp} {cs : Array Value} {x0 x1 : Value}
    (hf : fn.results = #[.cell s1 231]) (h1 : a.tmps.getD s1 undef = .pointer (some ⟨g, 0, none⟩))
    (hb : Blk W g 231 cs) (hd : a.defers = []) (hR : R (.returned (.agg #[x0, x1])) W) (hcs : cs = #[x0, x1] := by rfl) : bodyPost Try.prog fn R .ret a W := by
  refine bodyPost_ret ?_ hd hR
  subst hcs
  have c0 : W.cell? ⟨g, 0, none⟩ = some x0 := hb.cell 0
  have c1 : W.cell? ⟨g, 1, none⟩ = some x1 := hb.cell 1
  simp only [Array.getD_eq_getD_getElem?] at h1
  simp [results, hf, h1, go_sem, c0, c1]
def CkR (w : World) (l : List UInt8) (n : Nat) (gk : Nat) (vi : Value) (wr : World) : Prop :=
  ∃ (k s t : Nat), vi = .int .i64 k ∧ k ≤ n ∧ gk = n - k ∧ sums (l.take k) = (s, t) ∧ s < 251 ∧ t < 251 ∧ Below w.heap.size w wr ∧ w.heap.size + 2 ≤ wr.heap.size ∧
    Blk wr w.heap.size 231 #[.int .u8 0, .int .u8 0] ∧ Blk wr (w.heap.size + 1) 258 #[.int .i64 s, .int .i64 t]
theorem checksum_any (A : Option Addr) (n c : Nat) (l : List UInt8) (w : World) (hh : Holds w w.heap.size 1 A n (l.map bv)) (hn : n ≤ 9223372036854775807) :
    Calls Try.prog 142 #[.slice A n c] w fun e w' => e = .returned (.agg #[.int .u8 ((sums l).1 : Nat), .int .u8 ((sums l).2 : Nat)]) ∧ Below w.heap.size w w' := by
  have hl := hh.len
  have Hh := Lib.hid hh
  have Hl := Lib.hid hl
  clear hh hl
  go_enter Try.func142, Try.ntmps142
  go_wp2
  go_loopg [8] n (CkR w l n)
  case atStart =>
    refine ⟨0, 0, 0, rfl, by omega, by omega, rfl, by omega, by omega, ?_, by simp, ?_, ?_⟩
    · exact ((Below.refl _ _).alloc (Nat.le_refl _) _).alloc (by simp) _
    · exact (Blk.new w _ _).alloc _
    · have := Blk.new (w.alloc (.cells #[.int .u8 0, .int .u8 0] 231)) 258 #[.int .i64 0, .int .i64 0]
      simpa using this
  case round =>
    obtain ⟨k, s, t, rfl, hk, hgk, hs, hs1, ht1, hb, hsz, hB0, hB1⟩ := hrel
    have Hgk := Lib.hid hgk
    have Hs := Lib.hid hs
    have Hb := Lib.hid hb
    have c0 : wr.cell? ⟨w.heap.size + 1, 0, none⟩ = some (.int .i64 s) := hB1.cell 0
    have c1 : wr.cell? ⟨w.heap.size + 1, 1, none⟩ = some (.int .i64 t) := hB1.cell 1
    have f0 := hB1.frozen 0
    have f1 := hB1.frozen 1
    have d0 : wr.cell? ⟨w.heap.size, 0, none⟩ = some (.int .u8 0) := hB0.cell 0
    have d1 : wr.cell? ⟨w.heap.size, 1, none⟩ = some (.int .u8 0) := hB0.cell 1
    have g0 := hB0.frozen 0
    have g1 := hB0.frozen 1
    have HB0 := Lib.hid hB0
    have HB1 := Lib.hid hB1
    clear hgk hs hb hB0 hB1
    by_cases hkn : k < n
    · obtain ⟨b, off, hkl, hA, hbb, hc1⟩ := Hh.out.byte hkn
      subst hA
      have hc2 : wr.cell? ⟨b, off + k, none⟩ = some (.int .u8 (l[k].toNat : Int)) := by rw [← hc1]; exact Hb.out.cell hbb
      have Hsn := Lib.hid (show sums (l.take (k + 1)) = ((s + l[k].toNat + 1) % 251, (t + (s + l[k].toNat + 1) % 251) % 251) by
        rw [List.take_succ_eq_append_getElem hkl, sums_snoc, Hs.out]; rfl)
      have hcl := l[k].toNat_lt
      clear hc1
      generalize l[k].toNat = x at *
      go_wp2
      all_goals
        go_roundg (n - (k + 1))
        case measure => have := Hgk.out; omega
        case rel =>
          refine ⟨k + 1, (s + x + 1) % 251, (t + (s + x + 1) % 251) % 251, by go_num, by omega, rfl, Hsn.out, Nat.mod_lt _ (by decide), Nat.mod_lt _ (by decide), ?_, by simpa using hsz, ?_, ?_⟩
          · exact (Hb.out.setCell (by simp) _).setCell (by simp) _
          · exact (HB0.out.far (by simp) _).far (by simp) _
          · have h2 := (HB1.out.set_ 0 (.int .i64 (((s : Int) + x + 1) % 251))).set_ 1 (.int .i64 (((t : Int) + (s + x + 1)) % 251))
            have e1 : (((s + x + 1) % 251 : Nat) : Int) = ((s : Int) + x + 1) % 251 := by omega
            have e2 : (((t + (s + x + 1) % 251) % 251 : Nat) : Int) = ((t : Int) + (s + x + 1)) % 251 := by omega
            rw [e1, e2]
            exact h2
    · have hkn' : k = n := by omega
      subst hkn'
      have Hs2 := Lib.hid (show sums l = (s, t) by rw [← Hs.out, List.take_of_length_le (by rw [Hl.out]; omega)])
      go_wp2
      refine ret_a2 (by rfl) (by rfl) ((HB0.out.set_ 0 _).set_ 1 _) (by rfl) ?_
      exact ⟨by rw [Hs2.out], (Hb.out.setCell (by simp) _).setCell (by simp) _⟩
end Go.Proofs.Ytmlgaedhfannmaa

/- Package wal: one frame put behind what is packed. -/
namespace Go.Proofs.Ytmlgaedhfannmaa
set_option linter.unusedVariables false
set_option linter.unusedSimpArgs false
open Go.RowKit
theorem wl_below {w w' : World} {base e size n : Nat} {v : Value} {xs : List Value} (h : w.ownsRow base e size v n xs) (hb : Below w.heap.size w w') : w'.ownsRow base e size v n xs :=
  World.ownsRow.kept h (only_below hb none) (by cases v.ownBlock <;> simp)
theorem own_place {w : World} {base e n : Nat} {v : Value} {xs : List Value} (h : w.ownsRow base e 1 v n xs) (hn : 0 < n) :
    ∃ g c, v = .slice (some ⟨g, 0, none⟩) n c ∧ base ≤ g ∧ n ≤ c ∧ (∀ j, w.frozen? ⟨g, j, none⟩ = false) ∧ (∀ j u, xs[j]? = some u → w.cell? ⟨g, j, none⟩ = some u) := by
  rcases h.2 with ⟨_, h0⟩ | ⟨g, cap, cur, hv, hb, hh, hnc, hm, hsz, ht⟩
  · omega
  · refine ⟨g, cap, hv, hb, hnc, fun j => ?_, fun j u hu => ?_⟩
    · exact (show Blk w g e cur from hh).frozen j
    · rw [(show Blk w g e cur from hh).cell j]
      rw [← ht, List.getElem?_take] at hu
      split at hu
      · simpa using hu
      · cases hu
theorem own_set1 {w : World} {base e n c g i : Nat} {xs : List Value} (h : w.ownsRow base e 1 (.slice (some ⟨g, 0, none⟩) n c) n xs) (u : Value) :
    (w.setCell ⟨g, i, none⟩ u).ownsRow base e 1 (.slice (some ⟨g, 0, none⟩) n c) n (xs.set i u) := by
  refine ⟨by rw [List.length_set]; exact h.1, ?_⟩
  rcases h.2 with ⟨hv, _⟩ | ⟨g', cap, cur, hv, hb, hh, hnc, hm, hsz, ht⟩
  · injection hv with hv; cases hv
  · injection hv with hv1 _ hv3
    injection hv1 with hv1
    injection hv1 with hv1
    subst hv1 hv3
    refine .inr ⟨g, c, cur.setIfInBounds i u, rfl, hb, (show Blk w g e cur from hh).set_ i u, hnc, hm, by simpa using hsz, ?_⟩
    rw [← ht]
    simp [List.take_set]
theorem u8_small {n : Nat} (h : n ≤ 255) : bv (UInt8.ofNat n) = .int .u8 (n : Int) := by
  unfold bv
  rw [UInt8.toNat_ofNat', Nat.mod_eq_of_lt (by omega)]
theorem holds_behind {w : World} {B g k m : Nat} {xs pre ys : List Value} (hce : ∀ j u, xs[j]? = some u → w.cell? ⟨g, j, none⟩ = some u) (hx : xs = pre ++ ys) (hk : pre.length = k) (hm : ys.length = m) (hg : g < B) : Holds w B 1 (some ⟨g, k, none⟩) m ys := by
  refine ⟨by omega, fun _ => ⟨g, k, rfl, hg, fun j u hu => hce (k + j) u ?_⟩⟩
  rw [hx, List.getElem?_append_right (by omega), hk, Nat.add_sub_cancel_left]
  exact hu
theorem set_flag (p : List UInt8) (a : UInt8) : ((p ++ [a, 0]).map bv).set (p.length + 1) (.int .u8 1) = (p ++ [a, 1]).map bv := by
  have e : p.length + 1 = (p.map bv ++ [bv a]).length := by simp
  have e1 : (p ++ [a, 0]).map bv = (p.map bv ++ [bv a]) ++ [bv 0] := by simp
  have e2 : (p ++ [a, 1]).map bv = (p.map bv ++ [bv a]) ++ [bv 1] := by simp
  rw [e1, e2, e, List.set_append_right _ _ (Nat.le_refl _)]
  simp; rfl
set_option maxHeartbeats 1000000 in
theorem appendFrame_no (v : Value) (p : List UInt8) (B : Nat) (Ar : Option Addr) (cr : Nat) (r : List UInt8) (w : World) (hown : Own w B v p) (hB : B ≤ w.heap.size)
    (hr : Holds w B 1 Ar r.length (r.map bv)) (hA : Ar = none → cr = 0) (hr2 : r.length ≤ 60) (hp : p.length ≤ 100000) :
    Calls Try.prog 125 #[v, .slice Ar r.length cr, .bool false] w fun e w' => ∃ v', e = .returned v' ∧ Own w' B v' (p ++ frm 0 r) ∧ Below B w w' := by
  obtain ⟨A, c, rfl, hAc⟩ := own_form hown
  obtain ⟨i0, hi0, hz0, hz1, hz2⟩ := info_parts info_u8
  have hcs : #[Value.int .u8 (r.length : Int), .int .u8 0] = ([UInt8.ofNat r.length, 0].map bv).toArray := by
    simp [u8_small (show r.length ≤ 255 by omega)]; rfl
  have hlen1 : p.length + ([UInt8.ofNat r.length, (0 : UInt8)] : List UInt8).length ≤ 1048576 := by simp; omega
  have hlen2 : p.length + 2 + r.length ≤ 1048576 := by omega
  have Hcs := Lib.hid hcs
  have Hown := Lib.hid hown
  have Hr := Lib.hid hr
  clear hcs hown hr
  go_enter Try.func125, Try.ntmps125
  go_wp2_with (first
    | (at_builtin; refine wpList_put (by rfl) _ _ (by rfl) B _ p [UInt8.ofNat r.length, 0] _ Hcs.out (by rfl) Hown.out _ (by rfl) _ (by rfl) (by rfl) hlen1 hB ?_; clear Hcs; intro v1 w1 ho1 hf1; have ho1' : w1.ownsRow B 5 1 v1 (p.length + 2) ((p ++ [UInt8.ofNat r.length, 0]).map bv) := (by simpa [Own] using ho1); obtain ⟨g1, c1, rfl, hg1, hc1, hfz1, hce1⟩ := own_place ho1' (by omega); have ho2 := ho1'; have hb2 : Below B w w1 := hf1.1; have hl2 := hf1.1.size; have Hr2 := Lib.hid (Hr.out.below hb2); have Ho2 := Lib.hid ho2; have Hb2 := Lib.hid hb2; clear ho2 hb2 ho1 ho1' hf1 hfz1 hce1)
    | (at_builtin; go_loud (refine wpList_append_all w1 (by rfl) _ _ 56 (by rfl) B 5 i0 _ 1 1 Try.underlying56 hi0 hz0 hz1 hz2 rfl (by decide) _ _ _ (by rfl) Ho2.out B Ar r.length cr (r.map bv) (by rfl) hA Hr2.out (bv_one _) hlen2 (by decide) (Nat.le_trans hB hl2) ?_); clear Hr2; intro v3 w3 ho3 hg3 _; have hl3' := hg3.size; obtain ⟨g3, c3, rfl, hg3a, hc3, _, hce3⟩ := own_place ho3 (by omega); have Hb3 := Lib.hid (Hb2.out.grown hg3 (Nat.le_trans hB hl2) (fun k hk => (Ho2.out.lt k hk).1)); have Ho3 := Lib.hid ho3; have Hce3 := Lib.hid hce3; have hl3 := Nat.le_trans hl2 hg3.size; have hlt3 : g3 < w3.heap.size := (ho3.lt g3 rfl).2; clear ho3 hg3 hce3))
  have hin : List.map bv (p ++ [UInt8.ofNat r.length, 0]) ++ List.map bv r = p.map bv ++ ((UInt8.ofNat r.length :: 0 :: r).map bv) := by simp
  have hm3 : ((UInt8.ofNat r.length :: (0 : UInt8) :: r).map bv).length = p.length + 2 + r.length - p.length := by simp; omega
  refine (checksum_any _ _ _ (UInt8.ofNat r.length :: 0 :: r) w3 (holds_behind Hce3.out hin (by simp) hm3 hlt3) (by omega)).mono ?_
  rintro e w4 ⟨rfl, hb4⟩
  have hst := sums_lt (UInt8.ofNat r.length :: 0 :: r)
  obtain ⟨x, hx⟩ : ∃ x, (sums (UInt8.ofNat r.length :: 0 :: r)).1 = x := ⟨_, rfl⟩
  obtain ⟨y, hy⟩ : ∃ y, (sums (UInt8.ofNat r.length :: 0 :: r)).2 = y := ⟨_, rfl⟩
  rw [hx, hy] at hst ⊢
  have Hx := Lib.hid hx
  have Hy := Lib.hid hy
  have Hb4 := Lib.hid hb4
  have hl4 := hb4.size
  have Ho4 := Lib.hid (wl_below Ho3.out hb4)
  clear hx hy hb4 hin hm3
  have hd : Holds (w4.alloc (.cells #[.int .u8 (x : Int), .int .u8 (y : Int)] 231)) (w4.heap.size + 1) 1 (some ⟨w4.heap.size, 0, none⟩) 2 ([UInt8.ofNat x, UInt8.ofNat y].map bv) := by
    refine ⟨rfl, fun _ => ⟨_, 0, rfl, by omega, fun j u hu => ?_⟩⟩
    rw [(Blk.new w4 231 _).cell, Nat.zero_add]
    simp only [List.map_cons, List.map_nil, u8_small (show x ≤ 255 by omega), u8_small (show y ≤ 255 by omega)] at hu
    simpa using hu
  have Hd := Lib.hid hd
  have hb5 : Below B w (w4.alloc (.cells #[.int .u8 (x : Int), .int .u8 (y : Int)] 231)) := (Hb3.out.trans (Hb4.out.mono (Nat.le_trans hB hl3))).alloc (by omega) _
  have Hb5 := Lib.hid hb5
  have hlen5 : p.length + 2 + r.length + 2 ≤ 1048576 := by omega
  have hB5 : B ≤ (w4.alloc (.cells #[.int .u8 (x : Int), .int .u8 (y : Int)] 231)).heap.size := Nat.le_trans hB hb5.size
  clear hd hb5
  go_wp2_with (at_builtin; refine wpList_append_all _ (by rfl) _ _ 56 (by rfl) B 5 i0 _ 1 1 Try.underlying56 hi0 hz0 hz1 hz2 rfl (by decide) _ _ _ (by rfl) (Ho4.out.alloc _) (w4.heap.size + 1) (some ⟨w4.heap.size, 0, none⟩) 2 2 _ (by rfl) (fun h => by cases h) Hd.out (bv_one _) hlen5 (by decide) hB5 ?_; clear Hd; intro v6 w6 ho6 hg6 _; have Hb6 := Lib.hid (Hb5.out.grown hg6 hB5 (fun k hk => (Ho4.out.lt k hk).1)); have Ho6 := Lib.hid ho6; clear ho6 hg6)
  go_ret
  refine ⟨_, rfl, ?_, Hb6.out⟩
  have h6 := Ho6.out
  have e : (List.map bv (p ++ [UInt8.ofNat r.length, 0]) ++ List.map bv r) ++ List.map bv [UInt8.ofNat x, UInt8.ofNat y] = List.map bv (p ++ frm 0 r) := by
    unfold frm
    simp only [Hx.out, Hy.out]
    simp
  rw [e] at h6
  unfold Own
  have e2 : (p ++ frm 0 r).length = p.length + 2 + r.length + 2 := by rw [List.length_append, frm_len]; omega
  rw [e2]
  exact h6
set_option maxHeartbeats 1000000 in
theorem appendFrame_yes (v : Value) (p : List UInt8) (B : Nat) (Ar : Option Addr) (cr : Nat) (r : List UInt8) (w : World) (hown : Own w B v p) (hB : B ≤ w.heap.size)
    (hr : Holds w B 1 Ar r.length (r.map bv)) (hA : Ar = none → cr = 0) (hr2 : r.length ≤ 60) (hp : p.length ≤ 100000) :
    Calls Try.prog 125 #[v, .slice Ar r.length cr, .bool true] w fun e w' => ∃ v', e = .returned v' ∧ Own w' B v' (p ++ frm 1 r) ∧ Below B w w' := by
  obtain ⟨A, c, rfl, hAc⟩ := own_form hown
  obtain ⟨i0, hi0, hz0, hz1, hz2⟩ := info_parts info_u8
  have hcs : #[Value.int .u8 (r.length : Int), .int .u8 0] = ([UInt8.ofNat r.length, 0].map bv).toArray := by
    simp [u8_small (show r.length ≤ 255 by omega)]; rfl
  have hlen1 : p.length + ([UInt8.ofNat r.length, (0 : UInt8)] : List UInt8).length ≤ 1048576 := by simp; omega
  have hlen2 : p.length + 2 + r.length ≤ 1048576 := by omega
  have Hcs := Lib.hid hcs
  have Hown := Lib.hid hown
  have Hr := Lib.hid hr
  clear hcs hown hr
  go_enter Try.func125, Try.ntmps125
  go_wp2_with (first
    | (at_builtin; refine wpList_put (by rfl) _ _ (by rfl) B _ p [UInt8.ofNat r.length, 0] _ Hcs.out (by rfl) Hown.out _ (by rfl) _ (by rfl) (by rfl) hlen1 hB ?_; clear Hcs; intro v1 w1 ho1 hf1; have ho1' : w1.ownsRow B 5 1 v1 (p.length + 2) ((p ++ [UInt8.ofNat r.length, 0]).map bv) := (by simpa [Own] using ho1); obtain ⟨g1, c1, rfl, hg1, hc1, hfz1, hce1⟩ := own_place ho1' (by omega); have hf := hfz1 (p.length + 1); have ho2 : (w1.setCell ⟨g1, p.length + 1, none⟩ (.int .u8 1)).ownsRow B 5 1 (.slice (some ⟨g1, 0, none⟩) (p.length + 2) c1) (p.length + 2) ((p ++ [UInt8.ofNat r.length, 1]).map bv) := (by have h := own_set1 (i := p.length + 1) ho1' (.int .u8 1); rw [set_flag p (UInt8.ofNat r.length)] at h; exact h); have hb2 : Below B w (w1.setCell ⟨g1, p.length + 1, none⟩ (.int .u8 1)) := hf1.1.setCell hg1 _; have hl2 : w.heap.size ≤ (w1.setCell ⟨g1, p.length + 1, none⟩ (.int .u8 1)).heap.size := (by simpa [World.setCell] using hf1.1.size); have hcx : w1.cell? ⟨g1, p.length + 1, none⟩ = some (.int .u8 0) := (by refine hce1 _ _ ?_; simp; rfl); have Hr2 := Lib.hid (Hr.out.below hb2); have Ho2 := Lib.hid ho2; have Hb2 := Lib.hid hb2; clear ho2 hb2 ho1 ho1' hf1 hfz1 hce1)
    | (at_builtin; go_loud (refine wpList_append_all (w1.setCell ⟨g1, p.length + 1, none⟩ (.int .u8 1)) (by rfl) _ _ 56 (by rfl) B 5 i0 _ 1 1 Try.underlying56 hi0 hz0 hz1 hz2 rfl (by decide) _ _ _ (by rfl) Ho2.out B Ar r.length cr (r.map bv) (by rfl) hA Hr2.out (bv_one _) hlen2 (by decide) (Nat.le_trans hB hl2) ?_); clear Hr2; intro v3 w3 ho3 hg3 _; have hl3' := hg3.size; obtain ⟨g3, c3, rfl, hg3a, hc3, _, hce3⟩ := own_place ho3 (by omega); have Hb3 := Lib.hid (Hb2.out.grown hg3 (Nat.le_trans hB hl2) (fun k hk => (Ho2.out.lt k hk).1)); have Ho3 := Lib.hid ho3; have Hce3 := Lib.hid hce3; have hl3 := Nat.le_trans hl2 hg3.size; have hlt3 : g3 < w3.heap.size := (ho3.lt g3 rfl).2; clear ho3 hg3 hce3))
  have hin : List.map bv (p ++ [UInt8.ofNat r.length, 1]) ++ List.map bv r = p.map bv ++ ((UInt8.ofNat r.length :: 1 :: r).map bv) := by simp
  have hm3 : ((UInt8.ofNat r.length :: (1 : UInt8) :: r).map bv).length = p.length + 2 + r.length - p.length := by simp; omega
  refine (checksum_any _ _ _ (UInt8.ofNat r.length :: 1 :: r) w3 (holds_behind Hce3.out hin (by simp) hm3 hlt3) (by omega)).mono ?_
  rintro e w4 ⟨rfl, hb4⟩
  have hst := sums_lt (UInt8.ofNat r.length :: 1 :: r)
  obtain ⟨x, hx⟩ : ∃ x, (sums (UInt8.ofNat r.length :: 1 :: r)).1 = x := ⟨_, rfl⟩
  obtain ⟨y, hy⟩ : ∃ y, (sums (UInt8.ofNat r.length :: 1 :: r)).2 = y := ⟨_, rfl⟩
  rw [hx, hy] at hst ⊢
  have Hx := Lib.hid hx
  have Hy := Lib.hid hy
  have Hb4 := Lib.hid hb4
  have hl4 := hb4.size
  have Ho4 := Lib.hid (wl_below Ho3.out hb4)
  clear hx hy hb4 hin hm3
  have hd : Holds (w4.alloc (.cells #[.int .u8 (x : Int), .int .u8 (y : Int)] 231)) (w4.heap.size + 1) 1 (some ⟨w4.heap.size, 0, none⟩) 2 ([UInt8.ofNat x, UInt8.ofNat y].map bv) := by
    refine ⟨rfl, fun _ => ⟨_, 0, rfl, by omega, fun j u hu => ?_⟩⟩
    rw [(Blk.new w4 231 _).cell, Nat.zero_add]
    simp only [List.map_cons, List.map_nil, u8_small (show x ≤ 255 by omega), u8_small (show y ≤ 255 by omega)] at hu
    simpa using hu
  have Hd := Lib.hid hd
  have hb5 : Below B w (w4.alloc (.cells #[.int .u8 (x : Int), .int .u8 (y : Int)] 231)) := (Hb3.out.trans (Hb4.out.mono (Nat.le_trans hB hl3))).alloc (by omega) _
  have Hb5 := Lib.hid hb5
  have hlen5 : p.length + 2 + r.length + 2 ≤ 1048576 := by omega
  have hB5 : B ≤ (w4.alloc (.cells #[.int .u8 (x : Int), .int .u8 (y : Int)] 231)).heap.size := Nat.le_trans hB hb5.size
  clear hd hb5
  go_wp2_with (at_builtin; refine wpList_append_all _ (by rfl) _ _ 56 (by rfl) B 5 i0 _ 1 1 Try.underlying56 hi0 hz0 hz1 hz2 rfl (by decide) _ _ _ (by rfl) (Ho4.out.alloc _) (w4.heap.size + 1) (some ⟨w4.heap.size, 0, none⟩) 2 2 _ (by rfl) (fun h => by cases h) Hd.out (bv_one _) hlen5 (by decide) hB5 ?_; clear Hd; intro v6 w6 ho6 hg6 _; have Hb6 := Lib.hid (Hb5.out.grown hg6 hB5 (fun k hk => (Ho4.out.lt k hk).1)); have Ho6 := Lib.hid ho6; clear ho6 hg6)
  go_ret
  refine ⟨_, rfl, ?_, Hb6.out⟩
  have h6 := Ho6.out
  have e : (List.map bv (p ++ [UInt8.ofNat r.length, 1]) ++ List.map bv r) ++ List.map bv [UInt8.ofNat x, UInt8.ofNat y] = List.map bv (p ++ frm 1 r) := by
    unfold frm
    simp only [Hx.out, Hy.out]
    simp
  rw [e] at h6
  unfold Own
  have e2 : (p ++ frm 1 r).length = p.length + 2 + r.length + 2 := by rw [List.length_append, frm_len]; omega
  rw [e2]
  exact h6
end Go.Proofs.Ytmlgaedhfannmaa
