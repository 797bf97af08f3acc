/- Joined texts: RwM, RwMem, RwStr, RwPre, RwChk, RwWrg, RwRef, RwEq, RwCel. -/
import Derived.Test.YtmlgaedhfannmaaBunA
import Derived.Test.YtmlgaedhfannmaaRows
import Derived.Outline
import Derived.BigQuiet
import Derived.Deep.LoopGhost
import Derived.Laws.StructEq
/- Sorted tables: what a valid one is, what a change does, what is found. Nothing of the program is named here. -/
namespace Go.Proofs.Ytmlgaedhfannmaa
set_option linter.unusedVariables false
set_option linter.unusedSimpArgs false

theorem bl_irrefl : ∀ a : List UInt8, Op.bytesLess a a = false
  | [] => rfl
  | c :: a => by simp [Op.bytesLess, bl_irrefl a]
theorem bl_cons (x y : UInt8) (a b : List UInt8) : Op.bytesLess (x :: a) (y :: b) = (decide (x < y) || (x == y && Op.bytesLess a b)) := rfl
theorem bl_self (x : UInt8) (a b : List UInt8) : Op.bytesLess (x :: a) (x :: b) = Op.bytesLess a b := by
  rw [bl_cons]; simp
theorem bl_total : ∀ a b : List UInt8, Op.bytesLess a b = false → Op.bytesLess b a = false → a = b
  | [], [], _, _ => rfl
  | [], _ :: _, h, _ => by simp [Op.bytesLess] at h
  | _ :: _, [], _, h => by simp [Op.bytesLess] at h
  | x :: a, y :: b, h1, h2 => by
    simp only [Op.bytesLess, Bool.or_eq_false_iff, Bool.and_eq_false_iff, decide_eq_false_iff_not, beq_eq_false_iff_ne] at h1 h2
    have hxy : x = y := by
      have e1 : ¬ x.toNat < y.toNat := by simpa [UInt8.lt_iff_toNat_lt] using h1.1
      have e2 : ¬ y.toNat < x.toNat := by simpa [UInt8.lt_iff_toNat_lt] using h2.1
      exact UInt8.toNat_inj.1 (by omega)
    subst hxy
    rw [bl_total a b (by simpa using h1.2) (by simpa using h2.2)]
theorem bl_trans : ∀ a b c : List UInt8, Op.bytesLess a b = true → Op.bytesLess b c = true → Op.bytesLess a c = true
  | a, [], c, h, _ => by cases a <;> simp [Op.bytesLess] at h
  | a, _ :: _, [], _, h => by simp [Op.bytesLess] at h
  | [], x :: b, y :: c, _, _ => by simp [Op.bytesLess]
  | x :: a, y :: b, z :: c, h1, h2 => by
    simp only [Op.bytesLess, Bool.or_eq_true, Bool.and_eq_true, decide_eq_true_eq, beq_iff_eq] at *
    simp only [UInt8.lt_iff_toNat_lt] at *
    rcases h1 with h1 | ⟨rfl, h1⟩
    · rcases h2 with h2 | ⟨rfl, h2⟩
      · exact .inl (by omega)
      · exact .inl h1
    · rcases h2 with h2 | ⟨rfl, h2⟩
      · exact .inl h2
      · exact .inr ⟨rfl, bl_trans a b c h1 h2⟩
theorem bl_asym {a b : List UInt8} (h : Op.bytesLess a b = true) : Op.bytesLess b a = false := by
  cases hb : Op.bytesLess b a with
  | false => rfl
  | true => have := bl_trans _ _ _ h hb; rw [bl_irrefl] at this; cases this
theorem bl_ne {a b : List UInt8} (h : Op.bytesLess a b = true) : a ≠ b := by
  rintro rfl; rw [bl_irrefl] at h; cases h

structure Rw where
  key : List UInt8
  val : List UInt8
theorem Rw.ext' {a b : Rw} (h1 : a.key = b.key) (h2 : a.val = b.val) : a = b := by
  obtain ⟨k, v⟩ := a; obtain ⟨k', v'⟩ := b
  simp only at h1 h2; rw [h1, h2]

/-- A key and a value of valid lengths. -/
def sizedR (r : Rw) : Bool := !r.key.isEmpty && decide (r.key.length ≤ 20) && decide (r.val.length ≤ 20)
/-- Not greater than what stands ahead of it. -/
def notUp : Option Rw → Rw → Bool
  | none, _ => false
  | some p, r => !Op.bytesLess p.key r.key
def chkGo : Option Rw → List Rw → Int
  | _, [] => 0
  | p, r :: l => if sizedR r = false then 1 else if r.val = [] then 4 else if notUp p r = true then 7 else chkGo (some r) l
def chkT (l : List Rw) : Int := if 40 < l.length then 1 else chkGo none l
/-- From row i on. -/
def chkAt (l : List Rw) (i : Nat) : Int := chkGo (if i = 0 then none else l[i - 1]?) (l.drop i)
theorem chkAt_zero (l : List Rw) : chkAt l 0 = chkGo none l := rfl
theorem chkAt_end (l : List Rw) : chkAt l l.length = 0 := by unfold chkAt; rw [List.drop_length]; unfold chkGo; rfl
theorem chkAt_step (l : List Rw) (i : Nat) (hi : i < l.length) :
    chkAt l i = if sizedR l[i] = false then 1 else if l[i].val = [] then 4 else if notUp (if i = 0 then none else l[i - 1]?) l[i] = true then 7 else chkAt l (i + 1) := by
  unfold chkAt
  rw [List.drop_eq_getElem_cons hi]
  rw [chkGo]
  rw [if_neg (show ¬ i + 1 = 0 by omega), Nat.add_sub_cancel, List.getElem?_eq_getElem hi]

/-- In increasing order of keys. -/
def srt : List Rw → Prop
  | [] => True
  | r :: l => (∀ q ∈ l, Op.bytesLess r.key q.key = true) ∧ srt l
theorem chkGo_zero : ∀ {l : List Rw} {p : Option Rw}, chkGo p l = 0 → (∀ r ∈ l, sizedR r = true ∧ r.val ≠ []) ∧ srt l ∧ (∀ q, p = some q → ∀ r ∈ l, Op.bytesLess q.key r.key = true)
  | [], p, _ => ⟨by simp, trivial, by simp⟩
  | r :: l, p, h => by
    unfold chkGo at h
    split at h
    · cases h
    · rename_i hs
      split at h
      · cases h
      · rename_i hv
        split at h
        · cases h
        · rename_i hn
          obtain ⟨h1, h2, h3⟩ := chkGo_zero h
          have h4 := h3 r rfl
          refine ⟨?_, ⟨h4, h2⟩, ?_⟩
          · intro q hq
            rcases List.mem_cons.1 hq with rfl | hq
            · exact ⟨by simpa using hs, hv⟩
            · exact h1 q hq
          · rintro q rfl x hx
            have hqr : Op.bytesLess q.key r.key = true := by simpa [notUp] using hn
            rcases List.mem_cons.1 hx with rfl | hx
            · exact hqr
            · exact bl_trans _ _ _ hqr (h4 x hx)
theorem chkGo_of : ∀ {l : List Rw} {p : Option Rw}, (∀ r ∈ l, sizedR r = true ∧ r.val ≠ []) → srt l → (∀ q, p = some q → ∀ r ∈ l, Op.bytesLess q.key r.key = true) → chkGo p l = 0
  | [], p, _, _, _ => by unfold chkGo; rfl
  | r :: l, p, h1, h2, h3 => by
    unfold chkGo
    have hr := h1 r (by simp)
    have hn : notUp p r = false := by
      cases p with
      | none => rfl
      | some q => simp [notUp, h3 q rfl r (by simp)]
    rw [if_neg (by simp [hr.1]), if_neg hr.2, if_neg (by simp [hn])]
    exact chkGo_of (fun q hq => h1 q (by simp [hq])) h2.2 (fun q hq x hx => by injection hq with hq; subst hq; exact h2.1 x hx)
/-- A valid table. -/
structure Fit (l : List Rw) : Prop where
  len : l.length ≤ 40
  good : ∀ r ∈ l, sizedR r = true ∧ r.val ≠ []
  srt : srt l
theorem chkT_fit {l : List Rw} (h : chkT l = 0) : Fit l := by
  unfold chkT at h
  split at h
  · cases h
  · obtain ⟨h1, h2, _⟩ := chkGo_zero h
    exact ⟨by omega, h1, h2⟩
theorem Fit.chk {l : List Rw} (h : Fit l) : chkT l = 0 := by
  unfold chkT
  rw [if_neg (by have := h.len; omega)]
  exact chkGo_of h.good h.srt (by simp)

/-- One change. -/
def setR (c : Rw) : List Rw → List Rw
  | [] => if c.val = [] then [] else [c]
  | r :: l => if Op.bytesLess r.key c.key = true then r :: setR c l else if r.key = c.key then (if c.val = [] then l else c :: l) else (if c.val = [] then r :: l else c :: r :: l)
/-- Where the key belongs; how many rows have it. -/
def plc (k : List UInt8) : List Rw → Nat
  | [] => 0
  | r :: l => if Op.bytesLess r.key k = true then plc k l + 1 else 0
def hit (k : List UInt8) (l : List Rw) : Nat := if (l[plc k l]?).map (·.key) = some k then 1 else 0
theorem plc_le (k : List UInt8) : ∀ l : List Rw, plc k l ≤ l.length
  | [] => Nat.le_refl _
  | r :: l => by
    unfold plc
    have := plc_le k l
    split
    · simp; omega
    · omega
theorem hit_le (k : List UInt8) (l : List Rw) : hit k l ≤ 1 := by unfold hit; split <;> omega
theorem hit_room (k : List UInt8) (l : List Rw) : plc k l + hit k l ≤ l.length := by
  unfold hit
  split
  · rename_i h
    cases hg : l[plc k l]? with
    | none => rw [hg] at h; cases h
    | some x => have := (List.getElem?_eq_some_iff.1 hg).1; omega
  · exact plc_le k l
theorem hit_cons_yes {k : List UInt8} {r : Rw} {l : List Rw} (h : Op.bytesLess r.key k = true) : hit k (r :: l) = hit k l := by
  unfold hit
  rw [show plc k (r :: l) = plc k l + 1 by rw [plc, if_pos h], List.getElem?_cons_succ]
theorem hit_cons_no {k : List UInt8} {r : Rw} {l : List Rw} (h : Op.bytesLess r.key k = false) : plc k (r :: l) = 0 ∧ hit k (r :: l) = if r.key = k then 1 else 0 := by
  have h0 : plc k (r :: l) = 0 := by rw [plc, if_neg (by simp [h])]
  refine ⟨h0, ?_⟩
  unfold hit
  rw [h0, List.getElem?_cons_zero]
  simp
theorem setR_eq (c : Rw) : ∀ l : List Rw, setR c l = l.take (plc c.key l) ++ (if c.val = [] then [] else [c]) ++ l.drop (plc c.key l + hit c.key l)
  | [] => by simp [setR, plc]
  | r :: l => by
    unfold setR
    cases h : Op.bytesLess r.key c.key with
    | true =>
      rw [if_pos rfl, hit_cons_yes h, show plc c.key (r :: l) = plc c.key l + 1 by rw [plc, if_pos h], setR_eq c l, Nat.add_right_comm, List.take_succ_cons, List.drop_succ_cons]
      rfl
    | false =>
      rw [if_neg (by simp), (hit_cons_no h).1, (hit_cons_no h).2]
      by_cases hk : r.key = c.key
      · rw [if_pos hk, if_pos hk]
        split <;> simp
      · rw [if_neg hk, if_neg hk]
        split <;> simp
theorem cnt_plc (k : List UInt8) : ∀ {l : List Rw}, srt l → l.countP (fun r => Op.bytesLess r.key k) = plc k l
  | [], _ => rfl
  | r :: l, h => by
    unfold plc
    cases hk : Op.bytesLess r.key k with
    | true => rw [List.countP_cons_of_pos (by simpa using hk), if_pos rfl, cnt_plc k h.2]
    | false =>
      rw [List.countP_cons_of_neg (by simp [hk]), if_neg (by simp)]
      rw [List.countP_eq_zero]
      intro q hq
      cases hqk : Op.bytesLess q.key k with
      | false => simp
      | true => rw [bl_trans _ _ _ (h.1 q hq) hqk] at hk; cases hk
theorem cnt_hit (k : List UInt8) : ∀ {l : List Rw}, srt l → l.countP (fun r => Op.bytesLess r.key k || r.key == k) = plc k l + hit k l
  | [], _ => rfl
  | r :: l, h => by
    cases hk : Op.bytesLess r.key k with
    | true => rw [List.countP_cons_of_pos (by simp [hk]), hit_cons_yes hk, cnt_hit k h.2, show plc k (r :: l) = plc k l + 1 by rw [plc, if_pos hk]]; omega
    | false =>
      rw [(hit_cons_no hk).1, (hit_cons_no hk).2]
      have h0 : l.countP (fun r => Op.bytesLess r.key k || r.key == k) = 0 := by
        rw [List.countP_eq_zero]
        intro q hq
        have hrq := h.1 q hq
        cases hqk : Op.bytesLess q.key k with
        | true => rw [bl_trans _ _ _ hrq hqk] at hk; cases hk
        | false =>
          have : q.key ≠ k := by rintro rfl; rw [hrq] at hk; cases hk
          simpa using this
      by_cases he : r.key = k
      · rw [List.countP_cons_of_pos (by simp [he]), h0, if_pos he]
      · rw [List.countP_cons_of_neg (by simp [he, hk]), h0, if_neg he]

/-- The same, as one who puts rows into a new list does it. -/
def insG : Bool → Rw → List Rw → List Rw
  | b, c, [] => if b then [] else [c]
  | b, c, r :: l => (if b = false ∧ Op.bytesLess c.key r.key = true then [c] else []) ++ (if r.key = c.key then [] else [r]) ++ insG (b || Op.bytesLess c.key r.key) c l
theorem insG_true (c : Rw) : ∀ {l : List Rw}, (∀ q ∈ l, q.key ≠ c.key) → insG true c l = l
  | [], _ => rfl
  | r :: l, h => by
    unfold insG
    rw [if_neg (by simp), if_neg (h r (by simp)), Bool.true_or, insG_true c (fun q hq => h q (by simp [hq]))]
    rfl
theorem insG_eq (c : Rw) : ∀ {l : List Rw}, srt l → insG c.val.isEmpty c l = setR c l
  | [], _ => by cases hv : c.val <;> simp [insG, setR, hv]
  | r :: l, h => by
    unfold insG setR
    cases hk : Op.bytesLess r.key c.key with
    | true =>
      rw [bl_asym hk, if_neg (by simp), if_neg (bl_ne hk), if_pos rfl, Bool.or_false, insG_eq c h.2]
      rfl
    | false =>
      rw [if_neg (show ¬ false = true by simp)]
      by_cases he : r.key = c.key
      · have hno : ∀ q ∈ l, q.key ≠ c.key := fun q hq e => by have := h.1 q hq; rw [he, e, bl_irrefl] at this; cases this
        rw [he, bl_irrefl, if_neg (by simp), if_pos rfl, if_pos rfl, Bool.or_false, insG_eq c h.2]
        have hst : setR c l = if c.val = [] then l else c :: l := by
          cases l with
          | nil => rfl
          | cons q l =>
            have hq := h.1 q (by simp)
            rw [he] at hq
            unfold setR
            rw [if_neg (by simp [bl_asym hq]), if_neg (hno q (by simp))]
        rw [hst]; rfl
      · have hck : Op.bytesLess c.key r.key = true := by
          cases hc : Op.bytesLess c.key r.key with
          | true => rfl
          | false => exact absurd (bl_total _ _ hk hc) he
        have hno : ∀ q ∈ l, q.key ≠ c.key := fun q hq e => by
          have := bl_trans _ _ _ hck (h.1 q hq); rw [e, bl_irrefl] at this; cases this
        rw [if_neg he, if_neg he, hck, Bool.or_true, insG_true c hno]
        cases hv : c.val <;> simp

/-- What is found of a key: nothing is empty. -/
def look (l : List Rw) (k : List UInt8) : List UInt8 :=
  match l with
  | [] => []
  | r :: l => if r.key = k then r.val else look l k
theorem look_none : ∀ {l : List Rw} {k : List UInt8}, (∀ q ∈ l, q.key ≠ k) → look l k = []
  | [], _, _ => rfl
  | r :: l, k, h => by
    unfold look
    rw [if_neg (h r (by simp)), look_none fun q hq => h q (by simp [hq])]
theorem look_above {r : Rw} {l : List Rw} {k : List UInt8} (h : srt (r :: l)) (hk : Op.bytesLess k r.key = true) : look (r :: l) k = [] := by
  apply look_none
  intro q hq
  rcases List.mem_cons.1 hq with rfl | hq
  · exact (bl_ne hk).symm
  · exact (bl_ne (bl_trans _ _ _ hk (h.1 q hq))).symm
theorem look_self {r : Rw} {l : List Rw} (h : srt (r :: l)) : look l r.key = [] := by
  apply look_none
  intro q hq
  exact (bl_ne (h.1 q hq)).symm
theorem mem_setR {c q : Rw} : ∀ {l : List Rw}, q ∈ setR c l → q ∈ l ∨ (q = c ∧ c.val ≠ [])
  | [], h => by
    unfold setR at h
    split at h
    · simp at h
    · rename_i hv; exact .inr ⟨by simpa using h, hv⟩
  | r :: l, h => by
    unfold setR at h
    split at h
    · rcases List.mem_cons.1 h with rfl | h
      · exact .inl (by simp)
      · rcases mem_setR h with h | h
        · exact .inl (by simp [h])
        · exact .inr h
    · split at h
      · split at h
        · exact .inl (by simp [h])
        · rename_i hv
          rcases List.mem_cons.1 h with rfl | h
          · exact .inr ⟨rfl, hv⟩
          · exact .inl (by simp [h])
      · split at h
        · exact .inl h
        · rename_i hv
          rcases List.mem_cons.1 h with rfl | h
          · exact .inr ⟨rfl, hv⟩
          · exact .inl h
theorem srt_setR {c : Rw} : ∀ {l : List Rw}, srt l → srt (setR c l)
  | [], _ => by
    unfold setR
    split
    · trivial
    · exact ⟨by simp, trivial⟩
  | r :: l, h => by
    unfold setR
    split
    · rename_i hk
      refine ⟨fun q hq => ?_, srt_setR h.2⟩
      rcases mem_setR hq with hq | ⟨rfl, _⟩
      · exact h.1 q hq
      · exact hk
    · rename_i hk
      split
      · rename_i he
        split
        · exact h.2
        · exact ⟨fun q hq => by rw [← he]; exact h.1 q hq, h.2⟩
      · rename_i he
        split
        · exact h
        · refine ⟨fun q hq => ?_, h⟩
          have hck : Op.bytesLess c.key r.key = true := by
            cases hc : Op.bytesLess c.key r.key with
            | true => rfl
            | false => exact absurd (bl_total _ _ (by simpa using hk) hc) he
          rcases List.mem_cons.1 hq with rfl | hq
          · exact hck
          · exact bl_trans _ _ _ hck (h.1 q hq)
theorem look_setR {c : Rw} {k : List UInt8} : ∀ {l : List Rw}, srt l → look (setR c l) k = if c.key = k then c.val else look l k
  | [], _ => by
    unfold setR
    split
    · rename_i hv; rw [hv]; split <;> rfl
    · rfl
  | r :: l, h => by
    unfold setR
    split
    · rename_i hk
      rw [look, look, look_setR h.2]
      by_cases h1 : r.key = k
      · rw [if_pos h1, if_pos h1, if_neg (by rw [← h1]; exact (bl_ne hk).symm)]
      · rw [if_neg h1, if_neg h1]
    · rename_i hk
      split
      · rename_i he
        split
        · rename_i hv
          by_cases h1 : c.key = k
          · rw [if_pos h1, hv, ← h1, ← he, look_self h]
          · rw [if_neg h1, look, if_neg (by rw [he]; exact h1)]
        · rw [look, look]
          by_cases h1 : c.key = k
          · rw [if_pos h1, if_pos h1]
          · rw [if_neg h1, if_neg h1, if_neg (by rw [he]; exact h1)]
      · rename_i he
        have hck : Op.bytesLess c.key r.key = true := by
          cases hc : Op.bytesLess c.key r.key with
          | true => rfl
          | false => exact absurd (bl_total _ _ (by simpa using hk) hc) he
        split
        · rename_i hv
          by_cases h1 : c.key = k
          · rw [if_pos h1, hv, ← h1, look_above h hck]
          · rw [if_neg h1]
        · rfl
theorem look_ext : ∀ {l m : List Rw}, srt l → srt m → (∀ r ∈ l, r.val ≠ []) → (∀ r ∈ m, r.val ≠ []) → (∀ k, look l k = look m k) → l = m
  | [], [], _, _, _, _, _ => rfl
  | [], r :: m, _, _, _, h2, h => by
    have := h r.key
    rw [look, look, if_pos rfl] at this
    exact absurd this.symm (h2 r (by simp))
  | r :: l, [], _, _, h1, _, h => by
    have := h r.key
    rw [look, look, if_pos rfl] at this
    exact absurd this (h1 r (by simp))
  | a :: l, b :: m, hl, hm, h1, h2, h => by
    have hk : a.key = b.key := by
      apply bl_total
      · cases hab : Op.bytesLess a.key b.key with
        | false => rfl
        | true =>
          have := h a.key
          rw [look_above hm hab, look, if_pos rfl] at this
          exact absurd this (h1 a (by simp))
      · cases hba : Op.bytesLess b.key a.key with
        | false => rfl
        | true =>
          have := h b.key
          rw [look_above hl hba, look, if_pos rfl] at this
          exact absurd this.symm (h2 b (by simp))
    have hv : a.val = b.val := by
      have := h a.key
      rwa [look, if_pos rfl, look, if_pos hk.symm] at this
    obtain rfl := Rw.ext' hk hv
    rw [look_ext hl.2 hm.2 (fun r hr => h1 r (by simp [hr])) (fun r hr => h2 r (by simp [hr])) fun k => by
      by_cases he : a.key = k
      · subst he; rw [look_self hl, look_self hm]
      · have := h k
        rwa [look, look, if_neg he, if_neg he] at this]

/-- Changes one behind the other. -/
def sets (l cs : List Rw) : List Rw := cs.foldl (fun t c => setR c t) l
theorem sets_cons (l : List Rw) (c : Rw) (cs : List Rw) : sets l (c :: cs) = sets (setR c l) cs := rfl
theorem sets_app (l cs ds : List Rw) : sets l (cs ++ ds) = sets (sets l cs) ds := List.foldl_append ..
theorem srt_sets : ∀ {cs l : List Rw}, srt l → srt (sets l cs)
  | [], _, h => h
  | c :: cs, l, h => srt_sets (cs := cs) (srt_setR h)
theorem mem_sets {q : Rw} : ∀ {cs l : List Rw}, q ∈ sets l cs → q ∈ l ∨ (q ∈ cs ∧ q.val ≠ [])
  | [], _, h => .inl h
  | c :: cs, l, h => by
    rcases mem_sets (cs := cs) (show q ∈ sets (setR c l) cs from h) with h | ⟨h, h'⟩
    · rcases mem_setR h with h | ⟨rfl, h⟩
      · exact .inl h
      · exact .inr ⟨by simp, h⟩
    · exact .inr ⟨by simp [h], h'⟩
def lastOf : List Rw → List UInt8 → List UInt8 → List UInt8
  | [], _, d => d
  | c :: cs, k, d => lastOf cs k (if c.key = k then c.val else d)
theorem look_sets {k : List UInt8} : ∀ {cs l : List Rw}, srt l → look (sets l cs) k = lastOf cs k (look l k)
  | [], _, _ => rfl
  | c :: cs, l, h => by
    rw [sets_cons, look_sets (srt_setR h), look_setR h]; rfl
theorem lastOf_twice (k : List UInt8) : ∀ (cs : List Rw) (d e : List UInt8), lastOf cs k d = d ∨ lastOf cs k d = lastOf cs k e
  | [], _, _ => .inl rfl
  | c :: cs, d, e => by
    unfold lastOf
    by_cases h : c.key = k
    · rw [if_pos h, if_pos h]; exact .inr rfl
    · rw [if_neg h, if_neg h]; exact lastOf_twice k cs d e
theorem lastOf_self (k : List UInt8) (cs : List Rw) (d : List UInt8) : lastOf cs k (lastOf cs k d) = lastOf cs k d := by
  rcases lastOf_twice k cs (lastOf cs k d) d with h | h
  · exact h
  · exact h
theorem mem_len {α : Type} : ∀ {l m : List α}, l.Nodup → (∀ x ∈ l, x ∈ m) → l.length ≤ m.length
  | [], _, _, _ => Nat.zero_le _
  | a :: l, m, hn, h => by
    obtain ⟨s, t, rfl⟩ := List.append_of_mem (h a (by simp))
    have := mem_len (l := l) (m := s ++ t) (List.nodup_cons.1 hn).2 (fun x hx => by
      have hx' := h x (by simp [hx])
      have hne : x ≠ a := fun e => (List.nodup_cons.1 hn).1 (e ▸ hx)
      simp only [List.mem_append, List.mem_cons] at hx' ⊢
      rcases hx' with hx' | hx' | hx'
      · exact .inl hx'
      · exact absurd hx' hne
      · exact .inr hx')
    simp only [List.length_append, List.length_cons] at this ⊢
    omega
theorem srt_nodup : ∀ {l : List Rw}, srt l → (l.map (·.key)).Nodup
  | [], _ => by simp
  | r :: l, h => by
    rw [List.map_cons, List.nodup_cons]
    refine ⟨fun hm => ?_, srt_nodup h.2⟩
    obtain ⟨q, hq, he⟩ := List.mem_map.1 hm
    exact bl_ne (h.1 q hq) he.symm
/-- The keys of a table all lie in a list. -/
theorem srt_len {l : List Rw} (h : srt l) {ks : List (List UInt8)} (hk : ∀ r ∈ l, r.key ∈ ks) : l.length ≤ ks.length := by
  have := mem_len (srt_nodup h) (fun x hx => by obtain ⟨q, hq, rfl⟩ := List.mem_map.1 hx; exact hk q hq : ∀ x ∈ l.map (·.key), x ∈ ks)
  simpa using this

/-! ### What stands next -/
def nextF : List UInt8 → List UInt8
  | [] => []
  | c :: r => if nextF r ≠ [] then c :: nextF r else if c = 255 then [] else [c + 1]
theorem nextF_cons (c : UInt8) (r : List UInt8) : nextF (c :: r) = if nextF r ≠ [] then c :: nextF r else if c = 255 then [] else [c + 1] := rfl
theorem nextF_255 : ∀ h : List UInt8, nextF (h ++ [255]) = nextF h
  | [] => by simp [nextF]
  | c :: h => by rw [List.cons_append, nextF, nextF, nextF_255 h]
theorem nextF_end {c : UInt8} (hc : c ≠ 255) : ∀ h : List UInt8, nextF (h ++ [c]) = h ++ [c + 1]
  | [] => by simp [nextF, hc]
  | d :: h => by rw [List.cons_append, nextF, nextF_end hc h, if_pos (by simp)]; rfl
theorem nextF_none : ∀ {h : List UInt8}, nextF h = [] → ∀ c ∈ h, c = 255
  | [], _, c, hc => by simp at hc
  | d :: h, hn, c, hc => by
    unfold nextF at hn
    split at hn
    · cases hn
    · rename_i h1
      split at hn
      · rename_i h2
        rcases List.mem_cons.1 hc with rfl | hc
        · exact h2
        · exact nextF_none (by simpa using h1) c hc
      · cases hn
theorem u8_up {c d : UInt8} (hc : c ≠ 255) : (d < c + 1) ↔ d.toNat ≤ c.toNat := by
  rw [UInt8.lt_iff_toNat_lt, UInt8.toNat_add]
  have h1 : c.toNat < 256 := c.toNat_lt
  have h2 : c.toNat ≠ 255 := fun h => hc (UInt8.toNat_inj.1 (by rw [h]; rfl))
  rw [show (1 : UInt8).toNat = 1 from rfl, Nat.mod_eq_of_lt (by omega)]
  omega
/-- Those that begin so are those from the head on, ahead of what stands next. -/
theorem next_begins : ∀ (h s : List UInt8), h.isPrefixOf s = (!Op.bytesLess s h && ((nextF h).isEmpty || Op.bytesLess s (nextF h)))
  | [], s => by cases s <;> simp [nextF, Op.bytesLess]
  | c :: r, [] => by simp [Op.bytesLess]
  | c :: r, d :: s => by
    have ih := next_begins r s
    rw [List.isPrefixOf, bl_cons]
    by_cases hcd : c = d
    · subst hcd
      rw [show (c == c) = true by simp, Bool.true_and, ih, nextF_cons]
      by_cases hn : nextF r = []
      · rw [if_neg (by simp [hn]), hn]
        by_cases h255 : c = 255
        · simp [h255]
        · have : Op.bytesLess (c :: s) [c + 1] = true := by rw [bl_cons]; simp [u8_up h255]
          simp [h255, this]
      · rw [if_pos hn]
        have : (nextF r).isEmpty = false := by cases hh : nextF r <;> simp_all
        simp [bl_self, this]
    · rw [show (c == d) = false by simpa using hcd, show (d == c) = false by simpa using fun e => hcd e.symm, Bool.false_and, Bool.false_and, Bool.or_false]
      by_cases hlt : d < c
      · simp [hlt]
      · have hgt : c.toNat < d.toNat := by
          rw [UInt8.lt_iff_toNat_lt] at hlt
          have : c.toNat ≠ d.toNat := fun e => hcd (UInt8.toNat_inj.1 e)
          omega
        have hd : d.toNat < 256 := d.toNat_lt
        rw [nextF_cons]
        by_cases hn : nextF r = []
        · rw [if_neg (by simp [hn])]
          have h255 : c ≠ 255 := fun e => by rw [e] at hgt; have : (255 : UInt8).toNat = 255 := rfl; omega
          have h1 : ¬ d < c + 1 := by rw [u8_up h255]; omega
          have h2 : Op.bytesLess (d :: s) [c + 1] = false := by
            rw [bl_cons]
            cases s <;> simp [h1, Op.bytesLess]
          rw [if_neg h255]
          simp [h2]
        · rw [if_pos hn]
          have h2 : Op.bytesLess (d :: s) (c :: nextF r) = false := by
            rw [bl_cons]
            simp [hlt, show ¬ d = c from fun e => hcd e.symm]
          simp [h2]
theorem next_above {h : List UInt8} (t : List UInt8) (hn : nextF h ≠ []) : Op.bytesLess (h ++ t) (nextF h) = true := by
  have h1 := next_begins h (h ++ t)
  rw [show h.isPrefixOf (h ++ t) = true by rw [List.isPrefixOf_iff_prefix]; exact List.prefix_append _ _] at h1
  have h2 : (nextF h).isEmpty = false := by cases hh : nextF h <;> simp_all
  rw [h2, Bool.false_or] at h1
  have h3 := h1.symm
  rw [Bool.and_eq_true] at h3
  exact h3.2

/-! ### The rows that begin so -/
/-- What does not fit, of a table where what fits stands behind. -/
def upP (p : List UInt8 → Bool) : Prop := ∀ a b, Op.bytesLess a b = true → p a = true → p b = true
theorem beg_mono (h : List UInt8) : upP (fun k => !Op.bytesLess k h && !h.isPrefixOf k) := by
  intro a b hab ha
  simp only [next_begins, Bool.and_eq_true, Bool.not_eq_true', Bool.and_eq_false_iff, Bool.or_eq_false_iff, Bool.not_eq_false'] at ha ⊢
  obtain ⟨h1, h2⟩ := ha
  have hb : Op.bytesLess b h = false := by
    cases hbh : Op.bytesLess b h with
    | false => rfl
    | true => rw [bl_trans _ _ _ hab hbh] at h1; cases h1
  refine ⟨hb, .inr ?_⟩
  rcases h2 with h2 | ⟨h2, h3⟩
  · rw [h1] at h2; cases h2
  · refine ⟨h2, ?_⟩
    cases hbn : Op.bytesLess b (nextF h) with
    | false => rfl
    | true => rw [bl_trans _ _ _ hab hbn] at h3; cases h3
theorem ge_mono (k : List UInt8) : upP (fun x => !Op.bytesLess x k) := by
  intro a b hab ha
  simp only [Bool.not_eq_true'] at ha ⊢
  cases hb : Op.bytesLess b k with
  | false => rfl
  | true => rw [bl_trans _ _ _ hab hb] at ha; cases ha
theorem gt_mono (k : List UInt8) : upP (fun x => !(Op.bytesLess x k || x == k)) := by
  intro a b hab ha
  simp only [Bool.not_eq_true', Bool.or_eq_false_iff, beq_eq_false_iff_ne] at ha ⊢
  refine ⟨?_, ?_⟩
  · cases hb : Op.bytesLess b k with
    | false => rfl
    | true => rw [bl_trans _ _ _ hab hb] at ha; cases ha.1
  · rintro rfl; rw [hab] at ha; cases ha.1
theorem srt_at : ∀ {l : List Rw} {i j : Nat} (hi : i < l.length) (hj : j < l.length), srt l → i < j → Op.bytesLess l[i].key l[j].key = true
  | [], i, j, hi, _, _, _ => by simp at hi
  | r :: l, 0, j + 1, hi, hj, h, _ => h.1 _ (List.getElem_mem _)
  | r :: l, i + 1, j + 1, hi, hj, h, hij => by
    simpa using srt_at (l := l) (i := i) (j := j) (by simpa using hi) (by simpa using hj) h.2 (by omega)
  | r :: l, i, 0, _, _, _, hij => by omega
theorem cut_count (p : List UInt8 → Bool) (hp : upP p) : ∀ {l : List Rw}, srt l → l.drop (l.countP (fun r => !p r.key)) = l.filter (fun r => p r.key)
  | [], _ => rfl
  | r :: l, h => by
    cases hr : p r.key with
    | false => rw [List.countP_cons_of_pos (by simp [hr]), List.filter_cons_of_neg (by simp [hr]), List.drop_succ_cons, cut_count p hp h.2]
    | true =>
      have hall : ∀ q ∈ l, p q.key = true := fun q hq => hp _ _ (h.1 q hq) hr
      rw [List.countP_cons_of_neg (by simp [hr]), List.countP_eq_zero.2 (fun q hq => by simp [hall q hq]), List.drop_zero, List.filter_eq_self.2]
      intro q hq
      rcases List.mem_cons.1 hq with rfl | hq
      · exact hr
      · exact hall q hq
theorem cut_take (p : List UInt8 → Bool) (hp : upP p) : ∀ {l : List Rw}, srt l → l.take (l.countP (fun r => !p r.key)) = l.filter (fun r => !p r.key)
  | [], _ => rfl
  | r :: l, h => by
    cases hr : p r.key with
    | false => rw [List.countP_cons_of_pos (by simp [hr]), List.filter_cons_of_pos (by simp [hr]), List.take_succ_cons, cut_take p hp h.2]
    | true =>
      have hall : ∀ q ∈ l, p q.key = true := fun q hq => hp _ _ (h.1 q hq) hr
      rw [List.countP_cons_of_neg (by simp [hr]), List.countP_eq_zero.2 (fun q hq => by simp [hall q hq]), List.take_zero, List.filter_cons_of_neg (by simp [hr]), Eq.comm, List.filter_eq_nil_iff]
      intro q hq; simp [hall q hq]
theorem srt_filter (p : Rw → Bool) : ∀ {l : List Rw}, srt l → srt (l.filter p)
  | [], _ => trivial
  | r :: l, h => by
    rw [List.filter_cons]
    split
    · exact ⟨fun q hq => h.1 q (List.mem_filter.1 hq).1, srt_filter p h.2⟩
    · exact srt_filter p h.2
/-- Those that begin so stand side by side. -/
theorem beg_cut (h : List UInt8) {l : List Rw} (hl : srt l) :
    (l.take (l.countP (fun r => !(!Op.bytesLess r.key h && !h.isPrefixOf r.key)))).drop (l.countP (fun r => Op.bytesLess r.key h)) = l.filter (fun r => h.isPrefixOf r.key) := by
  rw [cut_take _ (beg_mono h) hl]
  have h1 : l.countP (fun r => Op.bytesLess r.key h) = (l.filter (fun r => !(!Op.bytesLess r.key h && !h.isPrefixOf r.key))).countP (fun r => !(fun k => !Op.bytesLess k h) r.key) := by
    rw [List.countP_filter]
    apply List.countP_congr
    intro r _
    simp only [Bool.not_not, Bool.and_eq_true]
    constructor
    · intro hr; simp [hr]
    · rintro ⟨hr, _⟩; exact hr
  rw [h1, cut_count _ (ge_mono h) (srt_filter _ hl), List.filter_filter]
  apply List.filter_congr
  intro r _
  cases hr : h.isPrefixOf r.key with
  | true =>
    have := next_begins h r.key
    rw [hr] at this
    have h2 := this.symm
    rw [Bool.and_eq_true] at h2
    simpa using h2.1
  | false => cases Op.bytesLess r.key h <;> simp
theorem beg_le (h : List UInt8) (l : List Rw) : l.countP (fun r => Op.bytesLess r.key h) ≤ l.countP (fun r => !(!Op.bytesLess r.key h && !h.isPrefixOf r.key)) := by
  apply List.countP_mono_left
  intro r _ hr
  simp [hr]
end Go.Proofs.Ytmlgaedhfannmaa

/- Sorted tables: how rows lie in memory. -/
namespace Go.Proofs.Ytmlgaedhfannmaa
set_option linter.unusedVariables false
set_option linter.unusedSimpArgs false
open Go.RowKit

/-- The two cells of a row; those of a list of rows. -/
def rc (r : Rw) : List Value := [str r.key, str r.val]
def pcR (l : List Rw) : List Value := l.flatMap rc
theorem pcR_nil : pcR [] = [] := rfl
theorem pcR_cons (r : Rw) (l : List Rw) : pcR (r :: l) = rc r ++ pcR l := rfl
theorem pcR_len : ∀ l : List Rw, (pcR l).length = l.length * 2
  | [] => rfl
  | r :: l => by rw [pcR_cons, List.length_append, pcR_len l]; simp [rc]; omega
theorem pcR_app (l m : List Rw) : pcR (l ++ m) = pcR l ++ pcR m := by unfold pcR; rw [List.flatMap_append]
theorem pcR_one : ∀ (l : List Rw), ∀ u ∈ pcR l, u.oneCell' = true
  | [], u, h => by simp [pcR] at h
  | r :: l, u, h => by
    rw [pcR_cons] at h
    rcases List.mem_append.1 h with h | h
    · simp [rc] at h
      rcases h with rfl | rfl <;> rfl
    · exact pcR_one l u h
theorem rc_one (r : Rw) : ∀ u ∈ rc r, u.oneCell' = true := by
  have := pcR_one [r]
  simpa [pcR] using this
theorem rc_len (r : Rw) : (rc r).length = 2 := rfl
theorem pcR_take : ∀ (l : List Rw) (k : Nat), (pcR l).take (k * 2) = pcR (l.take k)
  | [], k => by simp [pcR]
  | r :: l, 0 => by simp [pcR]
  | r :: l, k + 1 => by
    rw [pcR_cons, List.take_succ_cons, pcR_cons, ← pcR_take l k, show (k + 1) * 2 = (rc r).length + k * 2 by rw [rc_len]; omega, List.take_append]
    rw [List.take_of_length_le (by omega)]
    congr 2
    omega
theorem pcR_drop : ∀ (l : List Rw) (k : Nat), (pcR l).drop (k * 2) = pcR (l.drop k)
  | [], k => by simp [pcR]
  | r :: l, 0 => by simp
  | r :: l, k + 1 => by
    rw [pcR_cons, List.drop_succ_cons, ← pcR_drop l k, show (k + 1) * 2 = (rc r).length + k * 2 by rw [rc_len]; omega, List.drop_append]
    rw [List.drop_of_length_le (by omega), List.nil_append]
    congr 1
    omega
theorem pcR_at : ∀ {l : List Rw} {i : Nat} (hi : i < l.length), (pcR l)[i * 2]? = some (str l[i].key) ∧ (pcR l)[i * 2 + 1]? = some (str l[i].val)
  | [], i, hi => by simp at hi
  | r :: l, 0, _ => ⟨rfl, rfl⟩
  | r :: l, i + 1, hi => by
    have h := pcR_at (l := l) (i := i) (by simpa using hi)
    rw [pcR_cons]
    have hl := rc_len r
    rw [List.getElem?_append_right (by omega), List.getElem?_append_right (by omega), hl, show (i + 1) * 2 - 2 = i * 2 by omega, show (i + 1) * 2 + 1 - 2 = i * 2 + 1 by omega]
    simpa using h

/-- No string is longer than a string may be. -/
def Short (l : List Rw) : Prop := ∀ r ∈ l, r.key.length ≤ 9223372036854775807 ∧ r.val.length ≤ 9223372036854775807
/-- A list of rows; all of it lies below block B. -/
def RIn (w : World) (B : Nat) (A : Option Addr) (n c : Nat) (l : List Rw) : Prop :=
  l.length = n ∧ n ≤ c ∧ (A = none → c = 0) ∧ Holds w B 2 A n (pcR l)
section
variable {w w' : World} {B B' n c : Nat} {A : Option Addr} {l : List Rw}
theorem RIn.below (h : RIn w B A n c l) (hb : Below B w w') : RIn w' B A n c l := ⟨h.1, h.2.1, h.2.2.1, h.2.2.2.below hb⟩
theorem RIn.wider (h : RIn w B A n c l) (hB : B ≤ B') : RIn w B' A n c l := ⟨h.1, h.2.1, h.2.2.1, h.2.2.2.wider hB⟩
theorem RIn.empty : RIn w B none 0 0 [] := ⟨rfl, Nat.le_refl _, fun _ => rfl, Holds.empty⟩
/-- At place i. -/
theorem RIn.at_ (h : RIn w B A n c l) {i : Nat} (hi : i < l.length) :
    ∃ b off, A = some ⟨b, off, none⟩ ∧ b < B ∧ w.cell? ⟨b, off + i * 2, none⟩ = some (str l[i].key) ∧ w.cell? ⟨b, off + i * 2 + 1, none⟩ = some (str l[i].val) := by
  obtain ⟨h1, h2, h3, h4⟩ := h
  obtain ⟨b, off, rfl, hb, hcell⟩ := h4.2 (by omega)
  obtain ⟨k1, k2⟩ := pcR_at hi
  exact ⟨b, off, rfl, hb, hcell _ _ k1, by rw [Nat.add_assoc]; exact hcell _ _ k2⟩
/-- A row of the call's own. -/
theorem RIn.own {base e : Nat} {v : Value} (h : w.ownsRow base e 2 v n (pcR l)) : ∃ A c, v = .slice A n c ∧ RIn w w.heap.size A n c l := by
  obtain ⟨A, c, rfl, hA⟩ := own_form h
  have hl : l.length = n := by have := h.1; rw [pcR_len] at this; omega
  refine ⟨A, c, rfl, hl, ?_, fun hA' => (hA hA').2, Holds.own h⟩
  rcases h.2 with ⟨hv, h0⟩ | ⟨g, c', cur, hv, hb, hg, hnc, hrest⟩
  · injection hv; omega
  · injection hv; omega
end
end Go.Proofs.Ytmlgaedhfannmaa

/- Strings compared with '>', '>=' and '<='; a box of two cells that is laid and filled. -/
namespace Go.Proofs.Ytmlgaedhfannmaa
set_option linter.unusedVariables false
set_option linter.unusedSimpArgs false
open Go.RowKit
theorem bl_turn (a b : List UInt8) : (!Op.bytesLess a b && !a == b) = Op.bytesLess b a := by
  cases h1 : Op.bytesLess a b
  · cases h2 : Op.bytesLess b a
    · have := bl_total a b h1 h2
      subst this
      simp
    · have hne : a ≠ b := fun e => by subst e; rw [h1] at h2; cases h2
      simpa using hne
  · cases h2 : Op.bytesLess b a
    · rfl
    · have := bl_trans _ _ _ h1 h2
      rw [bl_irrefl] at this; cases this
@[go_sem high] theorem run_rw_gtr (w : World) (a b : List UInt8) : (binOp BinOp.gtr 9 (str a) (str b)).run Try.prog w = .ok (.bool (Op.bytesLess b a)) w := by
  rw [← bl_turn a b]
  simp [str, go_sem]
@[go_sem high] theorem run_rw_geq (w : World) (a b : List UInt8) : (binOp BinOp.geq 9 (str a) (str b)).run Try.prog w = .ok (.bool (!Op.bytesLess a b)) w := by
  simp [str, go_sem]
theorem bl_leq (a b : List UInt8) : (Op.bytesLess a b || a == b) = !Op.bytesLess b a := by
  rw [← bl_turn a b]
  cases Op.bytesLess a b <;> simp
@[go_sem high] theorem run_rw_leq (w : World) (a b : List UInt8) : (binOp BinOp.leq 9 (str a) (str b)).run Try.prog w = .ok (.bool (!Op.bytesLess b a)) w := by
  rw [← bl_leq]
  simp [str, go_sem]
@[go_sem high] theorem eqGuard_zero (o : BinOp) (t : TypeId) (x y : Operand) (a : List UInt8) : eqGuard o t x y (str a) (.string ⟨#[]⟩) = pure () := eqGuard_str o t x y a []
@[go_sem high] theorem run_rw_eq0 (w : World) (a : List UInt8) : (binOp BinOp.eql 9 (str a) (.string ⟨#[]⟩)).run Try.prog w = .ok (.bool a.isEmpty) w := by
  have h : (binOp BinOp.eql 9 (str a) (str [])).run Try.prog w = .ok (.bool (a == [])) w := by simp [str, go_sem]
  rw [show a.isEmpty = (a == []) by cases a <;> rfl]; exact h
@[go_sem high] theorem run_rw_ne0 (w : World) (a : List UInt8) : (binOp BinOp.neq 9 (str a) (.string ⟨#[]⟩)).run Try.prog w = .ok (.bool (!a.isEmpty)) w := by
  have h : (binOp BinOp.neq 9 (str a) (str [])).run Try.prog w = .ok (.bool (!(a == []))) w := by simp [str, go_sem]
  rw [show a.isEmpty = (a == []) by cases a <;> rfl]; exact h
theorem modify_push (h : Array Obj) (o : Obj) (f : Obj → Obj) : (h.push o).modify h.size f = h.push (f o) := by
  apply Array.ext_getElem?
  intro i
  rw [Array.getElem?_modify, Array.getElem?_push, Array.getElem?_push]
  by_cases hi : i = h.size
  · subst hi; simp
  · have hi' : ¬ h.size = i := fun e => hi e.symm
    simp [hi, hi']
theorem set_push (W : World) (c : Array Value) (t : TypeId) (i : Nat) (a : Value) : (W.alloc (.cells c t)).setCell ⟨W.heap.size, i, none⟩ a = W.alloc (.cells (c.setIfInBounds i a) t) := by
  unfold World.setCell World.alloc
  simp only [modify_push]
  rfl
theorem fill2 (W : World) (t : TypeId) (z0 z1 a b : Value) : ((W.alloc (.cells #[z0, z1] t)).setCell ⟨W.heap.size, 0, none⟩ a).setCell ⟨W.heap.size, 1, none⟩ b = W.alloc (.cells #[a, b] t) := by
  rw [set_push, set_push]; rfl
theorem box2 (W : World) (t : TypeId) (a b : Value) : (W.alloc (.cells #[a, b] t)).cell? ⟨W.heap.size, 0, none⟩ = some a ∧ (W.alloc (.cells #[a, b] t)).cell? ⟨W.heap.size, 1, none⟩ = some b :=
  ⟨(Blk.new W t #[a, b]).cell 0, (Blk.new W t #[a, b]).cell 1⟩
end Go.Proofs.Ytmlgaedhfannmaa

/- Sorted tables: what begins so, as the program tests it. Nothing of the program is named here. -/
namespace Go.Proofs.Ytmlgaedhfannmaa
set_option linter.unusedVariables false
set_option linter.unusedSimpArgs false
theorem pre_short {h s : List UInt8} (hl : ¬ h.length ≤ s.length) : h.isPrefixOf s = false := by
  cases hp : h.isPrefixOf s with
  | false => rfl
  | true => exact absurd (List.IsPrefix.length_le (List.isPrefixOf_iff_prefix.1 hp)) hl
theorem pre_take (h s : List UInt8) : (s.take h.length == h) = h.isPrefixOf s := by
  rw [Bool.eq_iff_iff, beq_iff_eq, List.isPrefixOf_iff_prefix, List.prefix_iff_eq_take]
  exact ⟨fun e => e.symm, fun e => e.symm⟩
theorem bl_leq2 (a b : List UInt8) : (Op.bytesLess a b || a == b) = !Op.bytesLess b a := by
  cases h1 : Op.bytesLess a b
  · cases h2 : Op.bytesLess b a
    · have := bl_total a b h1 h2
      subst this
      simp
    · have hne : a ≠ b := fun e => by subst e; rw [h1] at h2; cases h2
      simpa using hne
  · rw [bl_asym h1]; rfl
end Go.Proofs.Ytmlgaedhfannmaa

/- Sorted tables: isSized, Check, at every list. -/
namespace Go.Proofs.Ytmlgaedhfannmaa
set_option linter.unusedVariables false
set_option linter.unusedSimpArgs false
open Go.RowKit

theorem sized_no1 {r : Rw} (h : r.key = []) : sizedR r = false := by simp [sizedR, h]
theorem sized_no2 {r : Rw} (h : 20 < r.key.length) : sizedR r = false := by
  unfold sizedR; rw [show decide (r.key.length ≤ 20) = false by simp; omega]; simp
theorem sized_eq {r : Rw} (h : r.key ≠ []) (h2 : r.key.length ≤ 20) : sizedR r = decide (r.val.length ≤ 20) := by
  unfold sizedR
  rw [show r.key.isEmpty = false by cases hh : r.key <;> simp_all, show decide (r.key.length ≤ 20) = true by simpa using h2]; simp
set_option maxHeartbeats 1000000 in
theorem isSized_any (r : Rw) (w : World) (hk : r.key.length ≤ 9223372036854775807) (hv : r.val.length ≤ 9223372036854775807) :
    Calls Try.prog 39 #[.agg #[str r.key, str r.val]] w fun e w' => e = .returned (.bool (sizedR r)) ∧ Below w.heap.size w w' := by
  obtain ⟨k, v⟩ := r
  simp only at hk hv
  show Calls Try.prog 39 #[.agg #[str k, str v]] w fun e w' => e = .returned (.bool (sizedR ⟨k, v⟩)) ∧ Below w.heap.size w w'
  by_cases h1 : k = []
  · subst h1
    rw [sized_no1 rfl]
    go_enter Try.func39, Try.ntmps39
    go_wp2
    go_ret
    exact ⟨rfl, (Below.refl _ w).alloc (Nat.le_refl _) _⟩
  · have h1b : k.isEmpty = false := by cases k <;> simp_all
    by_cases h2 : k.length ≤ 20
    · have hH := Lib.hid (sized_eq (r := ⟨k, v⟩) h1 h2)
      have h2b : (k.length : Int) ≤ 20 := by omega
      go_enter Try.func39, Try.ntmps39
      go_wp2
      go_ret
      refine ⟨ret_bool ?_, (Below.refl _ w).alloc (Nat.le_refl _) _⟩
      rw [hH.out]
      exact decide_eq_decide.2 (by show (v.length : Int) ≤ 20 ↔ v.length ≤ 20; omega)
    · rw [sized_no2 (show 20 < (⟨k, v⟩ : Rw).key.length by simp only; omega)]
      have h2b : ¬ (k.length : Int) ≤ 20 := by omega
      go_enter Try.func39, Try.ntmps39
      go_wp2
      go_ret
      exact ⟨rfl, (Below.refl _ w).alloc (Nat.le_refl _) _⟩

/-- The loop over the rows: k of them are found good. -/
def ChkR (l : List Rw) (w : World) (gk : Nat) (v : Value) (wr : World) : Prop :=
  ∃ k : Nat, v = .int .i64 (k : Int) ∧ k ≤ l.length ∧ gk = l.length - k ∧ chkAt l k = chkGo none l ∧ Below w.heap.size w wr
set_option maxHeartbeats 1000000 in
set_option maxRecDepth 100000 in
theorem check_any (A : Option Addr) (n c B : Nat) (l : List Rw) (w : World) (hl : RIn w B A n c l) (hB : B ≤ w.heap.size) (hs : Short l) (hn : n ≤ 9223372036854775807) :
    Calls Try.prog 37 #[.slice A n c] w fun e w' => e = .returned (.int .i64 (chkT l)) ∧ Below w.heap.size w w' := by
  have hln := hl.1
  by_cases h40 : 40 < n
  · have HR := Lib.hid (show chkT l = 1 by unfold chkT; rw [if_pos (by omega)])
    have h4 : (40 : Int) < n := by omega
    clear hl hs hln
    go_enter Try.func37, Try.ntmps37
    go_wp2
    go_ret
    exact ⟨by rw [HR.out]; rfl, Below.refl _ w⟩
  · have HR := Lib.hid (show chkT l = chkGo none l by unfold chkT; rw [if_neg (by omega)])
    have h4 : ¬ (40 : Int) < n := by omega
    have Hl := Lib.hid hl
    have Hs := Lib.hid hs
    have Hln := Lib.hid hln
    clear hl hs hln
    go_enter Try.func37, Try.ntmps37
    go_wp2
    go_loopg [10] n (ChkR l w)
    case atStart => exact ⟨0, rfl, by omega, by rw [Hln.out]; rfl, rfl, Below.refl _ _⟩
    case round =>
      obtain ⟨k, rfl, hk, hgk, hc, hbe⟩ := hrel
      have Hgk := Lib.hid hgk
      have Hc := Lib.hid hc
      have Hbe := Lib.hid hbe
      have hszw := hbe.size
      clear hgk hc hbe
      rw [Hln.out] at hk
      by_cases hkn : k < n
      · have hkl : k < l.length := by rw [Hln.out]; exact hkn
        obtain ⟨b, off, hA, hbB, c0, c1⟩ := (Hl.out.below (Hbe.out.mono hB)).at_ hkl
        subst hA
        have hbw : b < wr.heap.size := by omega
        have Hst := Lib.hid (chkAt_step l k hkl)
        have hsh := Hs.out l[k] (List.getElem_mem _)
        have HC := Lib.hid (fun W => isSized_any l[k] W hsh.1 hsh.2)
        generalize hr : l[k] = r at *
        obtain ⟨rk, rv⟩ := r
        simp only at c0 c1 hsh
        have hi1 : ((k : Nat) : Int) < (n : Int) := by omega
        obtain ⟨W, hW⟩ : ∃ W, W = wr.alloc (.cells #[str rk, str rv] 51) := ⟨_, rfl⟩
        have hWb : Below wr.heap.size wr W := by rw [hW]; exact (Below.refl _ _).alloc (Nat.le_refl _) _
        have hWc := box2 wr 51 (str rk) (str rv)
        have hWs : W.heap.size = wr.heap.size + 1 := by rw [hW]; simp
        rw [← hW] at hWc
        obtain ⟨x0, x1⟩ := hWc
        have HW := Lib.hid hW
        clear hW
        have hi1b : decide ((k : Int) < (n : Int)) = true := by simpa using hkn
        cases hsz : sizedR ⟨rk, rv⟩
        · have HE := Lib.hid (show (1 : Int) = chkT l by rw [HR.out, ← Hc.out, Hst.out, hsz, if_pos rfl])
          rw [hsz] at HC
          clear hsz Hst
          go_wp2_with (go_at_call 39; rw [← HW.out]; refine (HC.out W).mono ?_; rintro e w1 ⟨rfl, hb1⟩)
          go_ret
          exact ⟨by rw [← HE.out] <;> rfl, (Hbe.out.trans (hWb.mono hszw)).trans (hb1.mono (by omega))⟩
        · rw [hsz] at HC
          have hB1 : ∀ w1, Below W.heap.size W w1 → Below w.heap.size w w1 := fun w1 hb1 => (Hbe.out.trans (hWb.mono hszw)).trans (hb1.mono (by omega))
          have HB1 := Lib.hid hB1
          have hX : ∀ w1, Below W.heap.size W w1 → w1.cell? ⟨wr.heap.size, 0, none⟩ = some (str rk) ∧ w1.cell? ⟨wr.heap.size, 1, none⟩ = some (str rv) :=
            fun w1 hb1 => ⟨by rw [hb1.cell (by rw [hWs]; exact Nat.lt_succ_self _)]; exact x0, by rw [hb1.cell (by rw [hWs]; exact Nat.lt_succ_self _)]; exact x1⟩
          have HX := Lib.hid hX
          clear hX hB1
          by_cases hv : rv = []
          · have HE := Lib.hid (show (4 : Int) = chkT l by rw [HR.out, ← Hc.out, Hst.out, hsz, if_neg (by simp), if_pos hv])
            have hvb : rv.isEmpty = true := by rw [hv]; rfl
            clear hsz Hst hv
            go_wp2_with (go_at_call 39; rw [← HW.out]; refine (HC.out W).mono ?_; rintro e w1 ⟨rfl, hb1⟩; obtain ⟨y0, y1⟩ := HX.out w1 hb1)
            go_ret
            exact ⟨by rw [← HE.out] <;> rfl, HB1.out _ hb1⟩
          · have hvb : rv.isEmpty = false := by cases rv <;> simp_all
            cases k with
            | zero =>
              have HE := Lib.hid (show chkAt l 1 = chkGo none l by rw [← Hc.out, Hst.out, hsz, if_neg (by simp), if_neg hv, if_neg (by simp [notUp])])
              have c0' : wr.cell? ⟨b, off, none⟩ = some (str rk) := by simpa using c0
              have c1' : wr.cell? ⟨b, off + 1, none⟩ = some (str rv) := by simpa using c1
              clear c0 c1
              clear hsz Hst hv
              go_wp2_with (first | (go_at_call 39; rw [← HW.out]; refine (HC.out W).mono ?_; rintro e w1 ⟨rfl, hb1⟩; obtain ⟨y0, y1⟩ := HX.out w1 hb1) | fail)
              go_quiet (fail)
              go_wp2
              go_roundg (n - 1)
              case measure => have := Hgk.out; have := Hln.out; omega
              case rel => exact ⟨1, rfl, by have := Hln.out; omega, by have := Hln.out; omega, HE.out, below_drewN (HB1.out _ hb1) _⟩
            | succ j =>
              have hjl : j < l.length := by omega
              obtain ⟨b', off', hA', hbB', d0, _⟩ := (Hl.out.below (Hbe.out.mono hB)).at_ hjl
              injection hA' with hA'
              injection hA' with e1 e2 _
              subst e1 e2
              have hst : (if j + 1 = 0 then none else l[j + 1 - 1]?) = some l[j] := by rw [if_neg (by omega), Nat.add_sub_cancel, List.getElem?_eq_getElem hjl]
              rw [hst, hsz] at Hst
              generalize hq : l[j].key = q at *
              have hz : ((j + 1 : Nat) : Int) > 0 := by omega
              have hD : ∀ w1, Below W.heap.size W w1 → w1.cell? ⟨b, off + j * 2, none⟩ = some (str q) := fun w1 hb1 => by
                rw [hb1.cell (by simp [hWs]; omega), hWb.cell hbw]; exact d0
              have HD := Lib.hid hD
              have hj1 : (j : Int) + 1 - 1 = (j : Int) := by omega
              have hj2 : (j : Int) < (n : Int) := by omega
              cases hls : Op.bytesLess q rk
              · have HE := Lib.hid (show (7 : Int) = chkT l by rw [HR.out, ← Hc.out, Hst.out, if_neg (by simp), if_neg hv, if_pos (by simp [notUp, hq, hls])])
                clear hsz Hst hv hst hD hq
                go_wp2_with (first | (go_at_call 39; rw [← HW.out]; refine (HC.out W).mono ?_; rintro e w1 ⟨rfl, hb1⟩; obtain ⟨y0, y1⟩ := HX.out w1 hb1; have y2 := HD.out w1 hb1) | fail)
                go_quiet (fail)
                go_wp2
                go_ret
                exact ⟨by rw [← HE.out] <;> rfl, below_drewN (HB1.out _ hb1) _⟩
              · have HE := Lib.hid (show chkAt l (j + 2) = chkGo none l by rw [← Hc.out, Hst.out, if_neg (by simp), if_neg hv, if_neg (by simp [notUp, hq, hls])])
                clear hsz Hst hv hst hD hq
                go_wp2_with (first | (go_at_call 39; rw [← HW.out]; refine (HC.out W).mono ?_; rintro e w1 ⟨rfl, hb1⟩; obtain ⟨y0, y1⟩ := HX.out w1 hb1; have y2 := HD.out w1 hb1) | fail)
                go_quiet (fail)
                go_wp2
                go_roundg (n - (j + 2))
                case measure => have := Hgk.out; have := Hln.out; omega
                case rel => exact ⟨j + 2, rfl, by have := Hln.out; omega, by have := Hln.out; omega, HE.out, below_drewN (HB1.out _ hb1) _⟩
      · go_wp2
        go_ret
        have : k = l.length := by have := Hln.out; omega
        subst this
        exact ⟨by rw [HR.out, ← Hc.out, chkAt_end]; rfl, Hbe.out⟩
end Go.Proofs.Ytmlgaedhfannmaa

/- Sorted tables: slices.ContainsFunc with the test of lengths. -/
namespace Go.Proofs.Ytmlgaedhfannmaa
set_option linter.unusedVariables false
set_option linter.unusedSimpArgs false
open Go.RowKit
theorem wrongSize_r (r : Rw) (w : World) (hk : r.key.length ≤ 9223372036854775807) (hv : r.val.length ≤ 9223372036854775807) :
    Calls Try.prog 38 #[.agg #[str r.key, str r.val]] w fun e w' => e = .returned (.bool (!sizedR r)) ∧ Below w.heap.size w w' := by
  have H0 := Lib.hid (fun W => isSized_any r W hk hv)
  have HB := Lib.hid ((Below.refl _ w).alloc (Nat.le_refl _) (.cells #[str r.key, str r.val] 51))
  generalize sizedR r = b at *
  go_enter Try.func38, Try.ntmps38
  go_wp2_with fail
  refine (H0.out _).mono ?_
  rintro e w1 ⟨rfl, hb⟩
  go_wp2
  go_ret
  exact ⟨rfl, HB.out.trans (hb.mono HB.out.size)⟩
/-- All have valid lengths. -/
def goodC (l : List Rw) : Bool := l.all sizedR
def IfW (w : World) (l : List Rw) (n : Nat) (gk : Nat) (vi : Value) (wr : World) : Prop :=
  ∃ k : Nat, vi = .int .i64 (k : Int) ∧ k ≤ n ∧ gk = n - k ∧ goodC (l.take k) = true ∧ Below w.heap.size w wr
set_option maxHeartbeats 1000000 in
theorem indexR_any (A : Option Addr) (n c B : Nat) (l : List Rw) (w : World) (hl : RIn w B A n c l) (hB : B ≤ w.heap.size) (hs : Short l) (hn : n ≤ 9223372036854775807) :
    Calls Try.prog 60 #[.slice A n c, .func (.func 38) #[] #[]] w fun e w' => ∃ i : Int, e = .returned (.int .i64 i) ∧ decide (0 ≤ i) = !goodC l ∧ Below w.heap.size w w' := by
  have Hln := Lib.hid hl.1
  have Hl := Lib.hid hl
  have Hs := Lib.hid hs
  clear hl hs
  go_enter Try.func60, Try.ntmps60
  go_wp2
  go_loopg [8] n (IfW w l n)
  case atStart => exact ⟨0, rfl, Nat.zero_le _, by omega, rfl, Below.refl _ _⟩
  case round =>
    obtain ⟨k, rfl, hk, hgk, hall, hbe⟩ := hrel
    have Hgk := Lib.hid hgk
    have Hall := Lib.hid hall
    have Hbe := Lib.hid hbe
    have hszw := hbe.size
    clear hgk hall hbe
    by_cases hkn : k < n
    · have hkl : k < l.length := by rw [Hln.out]; exact hkn
      obtain ⟨b, off, hA, hbB, c0, c1⟩ := (Hl.out.below (Hbe.out.mono hB)).at_ hkl
      subst hA
      have hsh := Hs.out l[k] (List.getElem_mem hkl)
      have H1 := Lib.hid (wrongSize_r l[k] wr hsh.1 hsh.2)
      have Ht := Lib.hid (show goodC (l.take (k + 1)) = sizedR l[k] by
        unfold goodC at *
        rw [List.take_succ_eq_append_getElem hkl, List.all_append, Hall.out]; simp)
      have Hm := Lib.hid (show goodC l = true → sizedR l[k] = true from fun h => List.all_eq_true.1 h _ (List.getElem_mem hkl))
      generalize l[k] = r at *
      have hi1 : (k : Int) < (n : Int) := by omega
      cases hb : sizedR r
      · rw [hb] at Hm H1
        have HG := Lib.hid (show decide ((0 : Int) ≤ (k : Int)) = !goodC l by
          rw [decide_eq_true (by omega)]
          cases h : goodC l
          · rfl
          · have := Hm.out h; cases this)
        clear hb
        go_wp2_with fail
        refine H1.out.mono ?_
        rintro e w1 ⟨rfl, hb1⟩
        have Hb1 := Lib.hid (Hbe.out.trans (hb1.mono hszw))
        clear hb1 H1
        go_wp2
        go_ret
        exact ⟨k, rfl, HG.out, Hb1.out⟩
      · rw [hb] at Ht H1
        clear hb
        go_wp2_with fail
        refine H1.out.mono ?_
        rintro e w1 ⟨rfl, hb1⟩
        have Hb1 := Lib.hid (Hbe.out.trans (hb1.mono hszw))
        clear hb1 H1
        go_wp2
        go_roundg (n - (k + 1))
        case measure => have := Hgk.out; omega
        case rel => exact ⟨k + 1, by go_num, by omega, rfl, Ht.out, Hb1.out⟩
    · have hkn' : k = l.length := by have := Hln.out; omega
      have HG := Lib.hid (show decide ((0 : Int) ≤ (-1 : Int)) = !goodC l by
        have := Hall.out
        rw [hkn', List.take_length] at this
        rw [this]; rfl)
      clear hkn'
      go_wp2
      go_ret
      exact ⟨-1, rfl, HG.out, Hbe.out⟩
theorem containsR_any (A : Option Addr) (n c B : Nat) (l : List Rw) (w : World) (hl : RIn w B A n c l) (hB : B ≤ w.heap.size) (hs : Short l) (hn : n ≤ 9223372036854775807) :
    Calls Try.prog 40 #[.slice A n c, .func (.func 38) #[] #[]] w fun e w' => e = .returned (.bool (!goodC l)) ∧ Below w.heap.size w w' := by
  have H0 := Lib.hid (indexR_any A n c B l w hl hB hs hn)
  clear hl hs
  go_enter Try.func40, Try.ntmps40
  go_wp2_with fail
  refine H0.out.mono ?_
  rintro e w1 ⟨i, rfl, h3, hb⟩
  go_wp2
  go_ret
  exact ⟨ret_bool (by rw [← h3]), hb⟩
end Go.Proofs.Ytmlgaedhfannmaa

/- Sorted tables, the reference: RowsFault at every list. -/
namespace Go.Proofs.Ytmlgaedhfannmaa
set_option linter.unusedVariables false
set_option linter.unusedSimpArgs false
open Go.RowKit
theorem sized_no0 {r : Rw} (h : 20 < r.val.length) : sizedR r = false := by
  unfold sizedR; rw [show decide (r.val.length ≤ 20) = false by simp; omega]; simp
theorem sized_yes {r : Rw} (h : r.key ≠ []) (h2 : r.key.length ≤ 20) (h3 : r.val.length ≤ 20) : sizedR r = true := by rw [sized_eq h h2]; simpa using h3
/-- How the reference finds a row's lengths: three tests. -/
theorem sized_tests (r : Rw) :
    (r.key.length < 1 ∧ sizedR r = false) ∨ (1 ≤ r.key.length ∧ 20 < r.key.length ∧ sizedR r = false) ∨ (1 ≤ r.key.length ∧ r.key.length ≤ 20 ∧ 20 < r.val.length ∧ sizedR r = false) ∨
      (1 ≤ r.key.length ∧ r.key.length ≤ 20 ∧ r.val.length ≤ 20 ∧ sizedR r = true) := by
  rcases Nat.lt_or_ge r.key.length 1 with h | h
  · exact .inl ⟨h, sized_no1 (List.eq_nil_of_length_eq_zero (by omega))⟩
  · have hne : r.key ≠ [] := by rintro e; rw [e] at h; simp at h
    rcases Nat.lt_or_ge 20 r.key.length with h2 | h2
    · exact .inr (.inl ⟨h, h2, sized_no2 h2⟩)
    · rcases Nat.lt_or_ge 20 r.val.length with h3 | h3
      · exact .inr (.inr (.inl ⟨h, h2, h3, sized_no0 h3⟩))
      · exact .inr (.inr (.inr ⟨h, h2, h3, sized_yes hne h2 h3⟩))
end Go.Proofs.Ytmlgaedhfannmaa

/- Rows compared: two that are the same. -/
namespace Go.Proofs.Ytmlgaedhfannmaa
set_option linter.unusedVariables false
set_option linter.unusedSimpArgs false
open Go.RowKit
theorem eq_row (a b : List UInt8) (w : World) : (Op.equalIn 10000 51 (.agg #[str a, str b]) (.agg #[str a, str b])).run Try.prog w = .ok true w := by
  have u9 := Try.underlying9
  have e9 : ∀ (l : List UInt8) (d : Nat), (Op.equalIn (d + 1) 9 (str l) (str l)).run Try.prog w = .ok true w := fun l d => by
    unfold str; rw [run_equalIn_string w d 9 _ _ u9]; simp
  rw [show (10000 : Nat) = 9999 + 1 from rfl, run_equalIn_agg w 9999 51 _ _ (by kernel_rfl) (by kernel_rfl)]
  go_simp
  trace_state
theorem gd_row (op : BinOp) (x y : Operand) (a b : List UInt8) (w : World) : (eqGuard op 51 x y (.agg #[str a, str b]) (.agg #[str a, str b])).run Try.prog w = .ok () w := run_eqGuard_agg w op 51 x y _ _ (by kernel_rfl)
end Go.Proofs.Ytmlgaedhfannmaa

/- The one cell of a string, for the walk. -/
namespace Go.Proofs.Ytmlgaedhfannmaa
set_option linter.unusedVariables false
set_option linter.unusedSimpArgs false
@[go_sem ↓ high] theorem str_cells (l : List UInt8) : Value.cells (str l) = #[str l] := rfl
end Go.Proofs.Ytmlgaedhfannmaa
