/- json's reader: isDigit, number. -/
import Derived.Test.YtgghncgefhanjaaGreatDoorJStr
import Derived.IntWalk
import Derived.Test.YtgghncgefhanjaaGreatDoorBunB
namespace Go.Proofs.YtgghncgefhanjaaGreatDoor
set_option linter.unusedVariables false
set_option linter.unusedSimpArgs false
open Go.RowKit

theorem digit_any (c : UInt8) (w : World) : Calls Tryz.prog 126 #[.int .u8 (c.toNat : Int)] w fun e w' => e = .returned (.bool (isDig c)) ∧ w = w' := by
  go_enter Tryz.func126, Tryz.ntmps126
  go_wp2
  all_goals go_ret
  all_goals refine ⟨ret_bool ?_, rfl⟩
  all_goals (rw [Bool.eq_iff_iff]; simp [isDig]; omega)

def numY (n : Int) : Value := .tuple #[.int .i64 n, .bool true]
def numN : Value := .tuple #[.int .i64 0, .bool false]

theorem digGo_bd : ∀ (ds : List UInt8) (n : Int), 0 ≤ n → n ≤ 9007199254740992 → (∀ c ∈ ds, isDig c = true) → 0 ≤ digGo n ds ∧ digGo n ds ≤ 9007199254740992
  | [], n, h0, h1, _ => by simp [digGo]; omega
  | c :: r, n, h0, h1, h => by
    have hc := h c (by simp)
    simp [isDig] at hc
    unfold digGo
    exact digGo_bd r _ (by omega) (by omega) fun x hx => h x (by simp [hx])

theorem numR_bd (r : List UInt8) (m : Int) (q : List UInt8) (h : numR r = some (m, q)) : -9007199254740992 ≤ m ∧ m ≤ 9007199254740992 := by
  by_cases h0 : r.head? = some 48
  · obtain ⟨r1, rfl⟩ := head_cons h0
    simp [numR] at h; omega
  obtain ⟨neg, hneg⟩ : ∃ neg, neg = decide (r.head? = some 45) := ⟨_, rfl⟩
  obtain ⟨r1, hr1⟩ : ∃ r1, r1 = if neg = true then r.tail else r := ⟨_, rfl⟩
  rw [numR_eq h0 neg hneg r1 hr1] at h
  have hb := digGo_bd (r1.takeWhile isDig) 0 (by omega) (by omega) (fun c hc => List.all_eq_true.1 (List.all_takeWhile (p := isDig) (l := r1)) c hc)
  by_cases hc : r1.takeWhile isDig = [] ∨ (r1.takeWhile isDig).head? = some 48
  · rw [if_pos hc] at h; cases h
  · rw [if_neg hc] at h
    simp only [Option.some.injEq, Prod.mk.injEq] at h
    obtain ⟨h, _⟩ := h
    cases neg <;> simp at h <;> omega

def NumR (g : Nat) (s : List UInt8) (p0 : Nat) (L : Nat) (D : Int) (Q : List UInt8) (w : World) (gk : Nat) (n : Value) (wr : World) : Prop :=
  ∃ (m : Int) (r : List UInt8) (p : Nat), n = .int .i64 m ∧ 0 ≤ m ∧ m ≤ 9007199254740992 ∧ gk = r.length ∧ digGo m (r.takeWhile isDig) = D ∧ r.dropWhile isDig = Q ∧
    p + r.length = s.length ∧ s.drop p = r ∧ p + r.length = p0 + L ∧ Blk wr g 110 #[str s, .int .i64 (p : Int)] ∧ w.grownBy wr (some g) ∧ r.length ≤ L

attribute [local go_sem high] str_mk
set_option maxRecDepth 100000 in
set_option maxHeartbeats 2000000 in
/-- From the digits on. -/
theorem number_any (g : Nat) (s r : List UInt8) (w : World) (hr : Rd w g s r) (hs : s.length ≤ 1048000) :
    Calls Tryz.prog 109 #[.pointer (some ⟨g, 0, none⟩)] w (OPost g s numY numN (numR r) w) := by
  by_cases h0 : r.head? = some 48
  · obtain ⟨r1, rfl⟩ : ∃ r1, r = 48 :: r1 := by
      cases r with
      | nil => simp at h0
      | cons c r1 => simp at h0; exact ⟨r1, by rw [h0]⟩
    go_enter Tryz.func109, Tryz.ntmps109
    go_wp2_with fail
    refine (take_yes g s [48] r1 _ hr (by omega)).mono ?_
    rintro e w2 ⟨rfl, hr2, hon2⟩
    go_wp2_with fail
    go_ret2
    exact .some (a := 0) (r := r1) rfl ⟨rfl, hr2, hon2⟩
  have hp0 : Lib.hasPrefix r [48] = false := hasPrefix_not h0
  -- what the sign leaves
  obtain ⟨neg, hneg⟩ : ∃ neg, neg = decide (r.head? = some 45) := ⟨_, rfl⟩
  obtain ⟨r1, hr1⟩ : ∃ r1, r1 = if neg = true then r.tail else r := ⟨_, rfl⟩
  have Hspec := Lib.hid (show numR r = if r1.takeWhile isDig = [] ∨ (r1.takeWhile isDig).head? = some 48 then none else some (if neg = true then -(digGo 0 (r1.takeWhile isDig)) else digGo 0 (r1.takeWhile isDig), r1.dropWhile isDig) by
    rw [numR, if_neg h0, hr1, hneg])
  have Hall := Lib.hid (show ∀ c ∈ r1.takeWhile isDig, isDig c = true from fun c hc => by
    have := List.all_takeWhile (p := isDig) (l := r1)
    exact List.all_eq_true.1 this c hc)
  have Htake : ∀ W, Rd W g s r → Calls Tryz.prog 104 #[.pointer (some ⟨g, 0, none⟩), str [45]] W (RPost g s (.bool neg) r1 W) := by
    intro W hW
    cases hn : neg with
    | true =>
      rw [hn] at hneg hr1
      have h45 : r.head? = some 45 := of_decide_eq_true hneg.symm
      obtain ⟨r2, rfl⟩ : ∃ r2, r = 45 :: r2 := by
        cases r with
        | nil => simp at h45
        | cons c r2 => simp at h45; exact ⟨r2, by rw [h45]⟩
      rw [hr1]
      exact take_yes g s [45] r2 W hW (by omega)
    | false =>
      rw [hn] at hneg hr1
      have h45 : ¬ r.head? = some 45 := of_decide_eq_false hneg.symm
      have : Lib.hasPrefix r [45] = false := hasPrefix_not h45
      rw [hr1]
      exact take_no g s [45] r W hW this (by omega)
  clear hneg hr1 h0
  go_enter Tryz.func109, Tryz.ntmps109
  go_wp2_with fail
  refine (take_no g s [48] r _ hr hp0 (by omega)).mono ?_
  rintro e w1 ⟨rfl, hrd1, hon1⟩
  go_wp2_with fail
  refine (Htake _ hrd1).mono ?_
  rintro e w2 ⟨rfl, ⟨p0, hp, hd, hb2⟩, hon2⟩
  clear Htake
  have c1 : w2.cell? ⟨g, 1, none⟩ = some (.int .i64 (p0 : Int)) := hb2.cell 1
  have Hp := Lib.hid hp
  have Hd := Lib.hid hd
  clear hp hd
  go_wp2_with fail
  go_loopg [6] r1.length (NumR g s p0 r1.length (digGo 0 (r1.takeWhile isDig)) (r1.dropWhile isDig) w)
  case atStart => exact ⟨0, r1, p0, rfl, by omega, by omega, rfl, rfl, rfl, Hp.out, Hd.out, rfl, hb2, only_trans hon1 hon2, by omega⟩
  case round =>
    clear c1
    obtain ⟨m, r', p, rfl, hm0, hm1, hgk, hD, hQ, hp', hd', hpp, hb', hon', hle'⟩ := hrel
    have k0 : wr.cell? ⟨g, 0, none⟩ = some (str s) := hb'.cell 0
    have k1 : wr.cell? ⟨g, 1, none⟩ = some (.int .i64 (p : Int)) := hb'.cell 1
    have kf : wr.frozen? ⟨g, 1, none⟩ = false := hb'.frozen 1
    have Hgk := Lib.hid hgk
    have HD := Lib.hid hD
    have HQ := Lib.hid hQ
    have Hpp := Lib.hid hpp
    clear hgk hD hQ hpp
    have hmore : (∃ c r2, r' = c :: r2 ∧ isDig c = true) ∨ (r' = [] ∨ ∃ c r2, r' = c :: r2 ∧ isDig c = false) := by
      cases r' with
      | nil => exact .inr (.inl rfl)
      | cons c r2 =>
        cases hc : isDig c
        · exact .inr (.inr ⟨c, r2, rfl, hc⟩)
        · exact .inl ⟨c, r2, rfl, hc⟩
    rcases hmore with ⟨c, r2, rfl, hc⟩ | hend
    · obtain ⟨hlt, hsp, hd2, hp2⟩ := drop_cons hp' hd'
      have hidx := fun W => run_index_str (P := Tryz.prog) W 9 s .i64 p Tryz.underlying9 hlt
      rw [hsp] at hidx
      have hlI : (p : Int) < (s.length : Int) := by omega
      have hc2 : 48 ≤ c.toNat ∧ c.toNat ≤ 57 := by simpa [isDig] using hc
      obtain ⟨hc48, hc57⟩ := hc2
      have Hd2 := Lib.hid hd2
      have Hp2 := Lib.hid hp2
      have HD2 := Lib.hid (show digGo (min (10 * m + (c.toNat - 48)) 9007199254740992) (r2.takeWhile isDig) = digGo 0 (r1.takeWhile isDig) by rw [← HD.out, List.takeWhile_cons, if_pos hc, digGo])
      have HQ2 := Lib.hid (show r2.dropWhile isDig = r1.dropWhile isDig by rw [← HQ.out, List.dropWhile_cons, if_pos hc])
      have hst : Blk (wr.setCell ⟨g, 1, none⟩ (.int .i64 ((p + 1 : Nat) : Int))) g 110 #[str s, .int .i64 ((p + 1 : Nat) : Int)] := hb'.set_ 1 _
      clear hd' hp' hsp hd2 hp2 HD HQ
      go_wp2_with fail
      go_quiet ((go_at_call 126; exact quiet_left (digit_any c _)))
      go_wp2_with fail
      have w1 : IntKind.i64.wrap (10 * m) = 10 * m := IntWalk.i64_in _ (by omega)
      have w2 : IntKind.u8.wrap ((c.toNat : Int) - 48) = (c.toNat : Int) - 48 := IntWalk.u8_in _ (by omega)
      have w3 : IntKind.i64.wrap ((c.toNat : Int) - 48) = (c.toNat : Int) - 48 := IntWalk.i64_in _ (by omega)
      have w4 : IntKind.i64.wrap (10 * m + ((c.toNat : Int) - 48)) = 10 * m + ((c.toNat : Int) - 48) := IntWalk.i64_in _ (by omega)
      go_quiet (fail)
      clear w1 w2 w3 w4
      go_wp2_with fail
      go_roundg r2.length
      case measure => have := Hgk.out; simp at this; omega
      case rel =>
        refine ⟨min (10 * m + (c.toNat - 48)) 9007199254740992, r2, p + 1, ?_, by omega, by omega, rfl, HD2.out, HQ2.out, Hp2.out, Hd2.out, by have := Hpp.out; simp at this; omega, by exact_mod_cast hst, only_setCell (drewN_only hon' _) (.inl rfl) _, by simp at hle'; omega⟩
        show Value.int .i64 _ = Value.int .i64 _
        congr 1
    · have hst : r'.takeWhile isDig = [] ∧ r'.dropWhile isDig = r' := by
        rcases hend with rfl | ⟨c, r2, rfl, hc⟩
        · exact ⟨rfl, rfl⟩
        · simp [hc]
      have HD2 := Lib.hid (show m = digGo 0 (r1.takeWhile isDig) by rw [← HD.out, hst.1, digGo])
      have HQ2 := Lib.hid (show r1.dropWhile isDig = r' by rw [← HQ.out, hst.2])
      have hap : r1.takeWhile isDig ++ r' = r1 := by rw [← HQ2.out]; exact List.takeWhile_append_dropWhile
      have hlen := congrArg List.length hap
      rw [List.length_append] at hlen
      have hbd := digGo_bd (r1.takeWhile isDig) 0 (by omega) (by omega) Hall.out
      rw [← HD2.out] at hbd
      have Hfin : ∀ W', W' = wr.drewN 0 ∨ True → True := fun _ _ => trivial
      have hrd : Rd wr g s r' := ⟨p, hp', hd', hb'⟩
      -- the tests behind the loop
      cases hds : r1.takeWhile isDig with
      | nil =>
        rw [hds] at hlen
        have hpe : p = p0 := by have := Hpp.out; simp at hlen; omega
        have Hno := Lib.hid (show numR r = none by rw [Hspec.out, hds]; simp)
        subst hpe
        clear Hspec hap hds hlen hst hbd Hfin
        rcases hend with rfl | ⟨c, r2, rfl, hc⟩
        · have hltn : ¬ p < s.length := by simp at hp'; omega
          have hltb : decide ((p : Int) < (s.length : Int)) = false := by simp; omega
          clear hp' hd'
          go_wp2_with fail
          go_quiet (fail)
          go_wp2_with fail
          go_ret2
          exact .none Hno.out ⟨rfl, hrd, drewN_only hon' _⟩
        · obtain ⟨hlt, hsp, hd2, hp2⟩ := drop_cons hp' hd'
          have hidx := fun W => run_index_str (P := Tryz.prog) W 9 s .i64 p Tryz.underlying9 hlt
          rw [hsp] at hidx
          have hlI : (p : Int) < (s.length : Int) := by omega
          clear hp' hd' hsp hd2 hp2
          go_wp2_with fail
          go_quiet ((go_at_call 126; exact quiet_left (digit_any c _)))
          go_wp2_with fail
          go_ret2
          exact .none Hno.out ⟨rfl, hrd, drewN_only hon' _⟩
      | cons c0 ds =>
        have hr1c : r1 = c0 :: (ds ++ r') := by rw [← hap, hds]; rfl
        have hdp := Hd.out
        have hpp := Hp.out
        rw [hr1c] at hdp hpp
        obtain ⟨hlt0, hsp0, _, _⟩ := drop_cons hpp hdp
        have hidx0 := fun W => run_index_str (P := Tryz.prog) W 9 s .i64 p0 Tryz.underlying9 hlt0
        rw [hsp0] at hidx0
        have hpl : p0 < p := by have := Hpp.out; rw [hds] at hlen; simp at hlen; omega
        have hpne : ((p : Int) == (p0 : Int)) = false := by rw [beq_eq_false_iff_ne]; omega
        have hlt0I : (p0 : Int) < (s.length : Int) := by omega
        have Hsp := Lib.hid (show numR r = if c0 = 48 then none else some (if neg = true then -m else m, r') by
          rw [Hspec.out, HD2.out, HQ2.out, hds]; simp)
        clear Hspec hap hlen hst Hfin hr1c hdp hpp hsp0 hds
        by_cases hc48 : c0 = 48
        · subst hc48
          rw [if_pos rfl] at Hsp
          rcases hend with rfl | ⟨c, r2, rfl, hc⟩
          · have hltn : ¬ p < s.length := by simp at hp'; omega
            have hltb : decide ((p : Int) < (s.length : Int)) = false := by simp; omega
            clear hp' hd'
            go_wp2_with fail
            go_quiet (fail)
            go_wp2_with fail
            go_ret2
            exact .none Hsp.out ⟨rfl, hrd, drewN_only hon' _⟩
          · obtain ⟨hlt, hsp, hd2, hp2⟩ := drop_cons hp' hd'
            have hidx := fun W => run_index_str (P := Tryz.prog) W 9 s .i64 p Tryz.underlying9 hlt
            rw [hsp] at hidx
            have hlI : (p : Int) < (s.length : Int) := by omega
            clear hp' hd' hsp hd2 hp2
            go_wp2_with fail
            go_quiet ((go_at_call 126; exact quiet_left (digit_any c _)))
            go_wp2_with fail
            go_ret2
            exact .none Hsp.out ⟨rfl, hrd, drewN_only hon' _⟩
        · rw [if_neg hc48] at Hsp
          have hc48b : ((c0.toNat : Int) == 48) = false := byte_ne (d := 48) hc48
          rcases hend with rfl | ⟨c, r2, rfl, hc⟩
          · have hltn : ¬ p < s.length := by simp at hp'; omega
            have hltb : decide ((p : Int) < (s.length : Int)) = false := by simp; omega
            clear hp' hd'
            cases neg
            · go_wp2_with fail
              go_quiet (fail)
              go_wp2_with fail
              go_ret2
              exact .some (a := m) Hsp.out ⟨rfl, hrd, drewN_only hon' _⟩
            · go_wp2_with fail
              go_quiet (fail)
              go_wp2_with fail
              go_ret2
              exact .some (a := -m) Hsp.out ⟨rfl, hrd, drewN_only hon' _⟩
          · obtain ⟨hlt, hsp, hd2, hp2⟩ := drop_cons hp' hd'
            have hidx := fun W => run_index_str (P := Tryz.prog) W 9 s .i64 p Tryz.underlying9 hlt
            rw [hsp] at hidx
            have hlI : (p : Int) < (s.length : Int) := by omega
            clear hp' hd' hsp hd2 hp2
            cases neg
            · go_wp2_with fail
              go_quiet ((go_at_call 126; exact quiet_left (digit_any c _)))
              go_wp2_with fail
              go_ret2
              exact .some (a := m) Hsp.out ⟨rfl, hrd, drewN_only hon' _⟩
            · go_wp2_with fail
              go_quiet ((go_at_call 126; exact quiet_left (digit_any c _)))
              go_wp2_with fail
              go_ret2
              exact .some (a := -m) Hsp.out ⟨rfl, hrd, drewN_only hon' _⟩
end Go.Proofs.YtgghncgefhanjaaGreatDoor
