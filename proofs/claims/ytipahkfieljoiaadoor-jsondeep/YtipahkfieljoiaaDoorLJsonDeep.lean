/- Proved here: for every integer, so many arrays within each other as it picks (1 to 20) are parsed and written back just if they are at most MaxDeep, and refused with ErrDeep otherwise (statement JsonDeep). No condition. -/
import Derived.Test.YtipahkfieljoiaaDoorJParse
import Derived.Test.YtipahkfieljoiaaDoorJBackN
import Derived.Test.YtipahkfieljoiaaDoorLaid
import Derived.Test.YtipahkfieljoiaaDoorOpen
import Derived.Test.YtipahkfieljoiaaDoorPicked
namespace Go.Proofs.YtipahkfieljoiaaDoor
set_option linter.unusedVariables false
set_option linter.unusedSimpArgs false
open Go.RowKit

def nest : Nat → JV
  | 0 => .mk 6 0 [] [] []
  | n + 1 => .mk 6 0 [] [] [nest n]
def nestT (k : Nat) : List UInt8 := List.replicate k 91 ++ List.replicate k 93
theorem nest_text : ∀ n, jtext (nest n) = nestT (n + 1)
  | 0 => by unfold nest; rw [jtext]; rfl
  | n + 1 => by
    unfold nest
    rw [jtext]
    show 91 :: (jarr true [nest n] ++ [93]) = _
    simp only [jarr, sep, nest_text n, nestT]
    rw [List.replicate_succ (n := n + 1), List.replicate_succ' (n := n + 1) (a := (93 : UInt8))]
    simp
theorem arr_alone (d : Nat) (ps : List JV) : alone (.mk 6 0 [] [] ps) d = if 6 ≤ d then 5 else 0 := by
  show (if 6 ≤ d then (5 : Int) else if (6 : Int) < 1 ∨ 7 < (6 : Int) then 3 else if unused (.mk 6 0 [] [] ps) = true then 4
      else if (6 : Int) = 7 ∧ (([] : List (List UInt8)).length ≠ ps.length ∨ incr [] = false) then 4 else if (0 : Int) ≤ -9007199254740992 ∨ 9007199254740992 ≤ (0 : Int) then 2 else 0) = _
  by_cases h : 6 ≤ d
  · rw [if_pos h, if_pos h]
  · rw [if_neg h, if_neg h, if_neg (by omega), if_neg (by simp [unused, JV.kind, JV.num, JV.text, JV.keys, JV.parts]), if_neg (by omega), if_neg (by omega)]
theorem nest_fault : ∀ (n d : Nat), fault d (nest n) = if 6 ≤ d + n then 5 else 0
  | 0, d => by
    unfold nest fault
    rw [arr_alone]
    by_cases h : 6 ≤ d
    · simp [h]
    · simp [h, faults]
  | n + 1, d => by
    unfold nest fault
    rw [arr_alone]
    by_cases h : 6 ≤ d
    · rw [if_pos h, if_pos (by omega), if_pos (by omega)]
    · rw [if_neg h, if_neg (by simp)]
      unfold faults faults
      rw [nest_fault n (d + 1)]
      by_cases h2 : 6 ≤ d + 1 + n
      · rw [if_pos h2, if_pos (by omega), if_pos (by omega)]
      · rw [if_neg h2, if_neg (by simp), if_neg (by omega)]
theorem nest_fine : ∀ n, Fine (nest n)
  | 0 => by unfold nest Fine; exact ⟨by rw [arr_alone]; rfl, by unfold Fines; trivial⟩
  | n + 1 => by
    unfold nest Fine
    refine ⟨by rw [arr_alone]; rfl, ?_⟩
    unfold Fines
    exact ⟨nest_fine n, by unfold Fines; trivial⟩
theorem nest_count : ∀ n, count (nest n) = n + 1
  | 0 => by unfold nest; simp [count, counts]
  | n + 1 => by unfold nest; simp [count, counts, nest_count n]; omega
theorem nestT_len (k : Nat) : (nestT k).length = 2 * k := by simp [nestT]; omega
theorem nest_check (n : Nat) (hn : n < 20) : checkN (nest n) = if 6 ≤ n then 5 else 0 := by
  unfold checkN
  rw [nest_fault, nest_count, nest_text, nestT_len, Nat.zero_add]
  by_cases h : 6 ≤ n
  · rw [if_pos h, if_pos (by omega)]
  · rw [if_neg h, if_neg (by simp), if_neg (by omega)]
theorem nest_read (n : Nat) : readR (nestT (n + 1)) = some (nest n) := by
  rw [← nest_text]; exact readR_text _ (nest_fine n)
theorem nestT_brace (k : Nat) : (123 : UInt8) ∉ nestT k := by simp [nestT, List.mem_replicate]
theorem rep_snoc (j : Nat) (c : UInt8) : List.replicate j c ++ [c] = List.replicate (j + 1) c := by rw [List.replicate_succ']

def DeepR1 (k : Nat) (w : World) (gk : Nat) (s i : Value) (wr : World) : Prop := ∃ j : Nat, i = .int .i64 j ∧ j ≤ k ∧ gk = k - j ∧ s = str (List.replicate j 91) ∧ w = wr
def DeepR2 (k : Nat) (w : World) (gk : Nat) (s i : Value) (wr : World) : Prop := ∃ j : Nat, i = .int .i64 j ∧ j ≤ k ∧ gk = k - j ∧ s = str (List.replicate k 91 ++ List.replicate j 93) ∧ w = wr

attribute [local go_sem high] str_mk
set_option maxRecDepth 100000 in
set_option maxHeartbeats 4000000 in
theorem walkJsonDeep (x0 : Int) (w : World) (hx0 : -9223372036854775808 ≤ x0 ∧ x0 ≤ 9223372036854775807) (htab : Tab w.heap.size w) :
    Calls Tryd.prog 10 #[.int .i64 x0] w fun e w' => e = .returned (.bool true) ∧ Below w.heap.size w w' := by
  have hp0 := Int.emod_nonneg x0 (show (20 : Int) ≠ 0 by omega)
  have hp1 := Int.emod_lt_of_pos x0 (show (0 : Int) < 20 by omega)
  obtain ⟨n, hn⟩ : ∃ n : Nat, (n : Int) = x0 % 20 := ⟨(x0 % 20).toNat, by omega⟩
  have hn20 : n < 20 := by omega
  have Hn := Lib.hid hn
  clear hn hp0 hp1
  have Hck := Lib.hid (nest_check n hn20)
  have Hrd := Lib.hid (nest_read n)
  have Htx := Lib.hid (nest_text n)
  have hcnt := nest_count n
  have hlen := nestT_len (n + 1)
  have Hlen := Lib.hid hlen
  have Hcnt := Lib.hid hcnt
  clear hcnt hlen
  have H1 := Lib.hid (show (1 : Int) + (n : Int) = ((n + 1 : Nat) : Int) by omega)
  go_enter Tryd.func10, Tryd.ntmps10
  go_wp2_with ((go_at_call 23; refine (picked_any x0 20 _ (by omega) (by omega)).mono ?_; rintro e y0 ⟨rfl, rfl⟩; rw [← Hn.out]))
  rw [H1.out]
  generalize hkk : n + 1 = k at *
  have Hkk := Lib.hid hkk
  have hk20 : k ≤ 20 := by omega
  clear hkk
  go_loopg [4, 5] k (DeepR1 k w)
  case atStart => exact ⟨0, rfl, by omega, by omega, rfl, rfl⟩
  case round =>
    obtain ⟨j, rfl, hj, hgk, rfl, rfl⟩ := hrel
    have Hgk := Lib.hid hgk
    clear hgk
    by_cases hlt : j < k
    · have hadd := fun W => run_str_add (P := Tryd.prog) W 9 (List.replicate j 91) [91] (by simp; omega)
      have Hsn := Lib.hid (rep_snoc j 91)
      generalize List.replicate j (91 : UInt8) ++ [91] = nx at *
      go_wp2_with fail
      go_roundg (k - (j + 1))
      case measure => have := Hgk.out; omega
      case rel => exact ⟨j + 1, by go_num, by omega, rfl, by rw [← Hsn.out], rfl⟩
    · have hjk : j = k := by omega
      subst hjk
      go_wp2_with fail
      go_loopg [4, 6] j (DeepR2 j w)
      case atStart => exact ⟨0, rfl, by omega, by omega, by simp, rfl⟩
      case round =>
        obtain ⟨i, rfl, hi, hgk, rfl, rfl⟩ := hrel
        have Hgk := Lib.hid hgk
        clear hgk
        by_cases hlt : i < j
        · have hadd := fun W => run_str_add (P := Tryd.prog) W 9 (List.replicate j 91 ++ List.replicate i 93) [93] (by simp; omega)
          have Hsn := Lib.hid (show List.replicate j (91 : UInt8) ++ List.replicate i 93 ++ [93] = List.replicate j 91 ++ List.replicate (i + 1) 93 by rw [List.append_assoc, rep_snoc])
          generalize List.replicate j (91 : UInt8) ++ List.replicate i 93 ++ [93] = nx at *
          generalize List.replicate j (91 : UInt8) ++ List.replicate i 93 = nw at *
          go_wp2_with fail
          go_roundg (j - (i + 1))
          case measure => have := Hgk.out; omega
          case rel => exact ⟨i + 1, by go_num, by omega, rfl, by rw [← Hsn.out], rfl⟩
        · have hij : i = j := by omega
          subst hij
          have Hs := Lib.hid (show List.replicate i (91 : UInt8) ++ List.replicate i 93 = nestT i from rfl)
          rw [Hs.out]
          have Hnb := Lib.hid (nestT_brace i)
          go_wp2_with fail
          generalize hst : nestT i = s at *
          clear hst
          have hsl : s.length ≤ 40 := by have := Hlen.out; omega
          refine (Parse_any s _ (fun _ => valAt_of (valOk_plain _) Hnb.out (by omega)) (by omega) htab).mono ?_
          intro e y1 ho
          by_cases hbig : 6 < i
          · rcases ho with ⟨v, cs, _, hrd, hck, _⟩ | ⟨hne, rfl, hbl⟩
            · rw [Hrd.out] at hrd
              injection hrd with hrd
              subst hrd
              have h := Hck.out
              rw [hck, if_pos (by have := Hkk.out; omega)] at h
              cases h
            · have Hpe := Lib.hid (show parseE s = 5 by unfold parseE; rw [if_neg (by omega), Hrd.out]; exact Hck.out.trans (if_pos (by have := Hkk.out; omega)))
              rw [Hpe.out]
              unfold zeroV
              go_wp2_with fail
              go_ret
              exact ⟨rfl, hbl.alloc hbl.size _⟩
          · rcases ho with ⟨v, cs, _, hrd, hck, rfl, hv, hbl⟩ | ⟨hne, _⟩
            · rw [Hrd.out] at hrd
              injection hrd with hrd
              have Hv := Lib.hid hrd
              clear hrd
              obtain ⟨k1, n1, t1, Ak, nk, ck, Ap, np, cp, rfl⟩ := hv.form
              have hbb := hbl.alloc hbl.size (.cells #[.int .i64 k1, .int .i64 n1, str t1, .slice Ak nk ck, .slice Ap np cp] 25)
              have htab1 := (htab.on hbb).here
              have hv1 : VIn (y1.alloc (.cells #[.int .i64 k1, .int .i64 n1, str t1, .slice Ak nk ck, .slice Ap np cp] 25)) y1.heap.size v [.int .i64 k1, .int .i64 n1, str t1, .slice Ak nk ck, .slice Ap np cp] :=
                VIn.kept (fun p hp => World.cell?_alloc_lt _ _ p hp) _ _ (VInS.toB (fun b hb => hb.2) _ _ hv)
              have HT := Lib.hid (show textR v = .tuple #[str s, .int .i64 0] by unfold textR; rw [hck, if_pos rfl, ← Hv.out, Htx.out])
              have hcv : count v ≤ 1073741824 := by rw [← Hv.out, Hcnt.out]; omega
              clear hck
              go_wp2_with fail
              refine (Text_any v _ _ y1.heap.size (by simp) hv1 htab1 hcv).mono ?_
              rintro e y2 ⟨rfl, hb2⟩
              rw [HT.out]
              go_wp2_with fail
              go_ret
              exact ⟨by simp, hbb.trans (hb2.mono hbb.size)⟩
            · exact absurd (show parseE s = 0 by unfold parseE; rw [if_neg (by omega), Hrd.out]; exact Hck.out.trans (if_neg (by have := Hkk.out; omega))) hne
namespace jsonDeep
open Go.ChangeShapes Go.WideShapes Go.ChangeAt Go.RowKit
theorem own : ownKnob Tryd.prog.godebug = none := by kernel_rfl
theorem laidOut : laidOutB Tryd.prog = true := by kernel_rfl
set_option linter.unusedVariables false
theorem laid_met (os : Os) : laidMet Tryd.prog Rows.jsonDeepRow.laid ((laidWorld os).forCall (fun _ _ => 0) ⟨#[], #[.int .i64 0], []⟩).memory :=
  laidMet_of_run' 8 (by kernel_rfl) (by kernel_rfl)
theorem reads (os : Os) {H : Type} (enc : TypeId × Value → H) : ∃ places, DataW.whole enc Tryd.prog ((laidWorld os).forCall (fun _ _ => 0) ⟨#[], #[.int .i64 0], []⟩).memory Tryd.f10.params.toList Rows.jsonDeepSpec.vars false #[Value.int .i64 0].toList 8 = some ([.lit (.int .i64 0)], [], places) :=
  ⟨[], by kernel_rfl⟩
set_option maxRecDepth 100000 in
theorem contract (H : Type) (enc : TypeId × Value → H) (W : World) (base : Nat) (args : Array Value) (ds gs : List (DataW H)) (before : List MemPlace)
    (hval0 : ∀ (j : Nat) t v, Tryd.f10.params[j]? = some t → args[j]? = some v → Value.okWide Tryd.prog W .any base t v)
    (hW : DataW.Whole enc Tryd.prog Tryd.f10.params.toList Rows.jsonDeepSpec.vars false W args.toList ds gs before) (hL : laidMetH Tryd.prog Rows.jsonDeepRow.laid W) :
    Calls Tryd.prog 10 args W fun e W' => ∃ v, e = .returned v ∧ Rows.jsonDeepSpec.post enc Tryd.prog Tryd.f10 false true false false W args v W' := by
  have hval : ∀ (j : Nat) t v, Tryd.f10.params[j]? = some t → args[j]? = some v → Value.okWide Tryd.prog W .any base t v := hval0
  have hW' := hW
  obtain ⟨p, q, hA0, hV, rfl, hfz, hnd⟩ := hW
  have hA : DataW.TrodAll enc Tryd.prog W 0 (fun _ => true) true Tryd.f10.params.toList args.toList ds p := hA0
  rw [Tryd.params10] at hA hval
  obtain ⟨v0, vs0, d0, ds0, p0, q0, hargs, rfl, rfl, h0, r0⟩ := trodAll_cons hA
  obtain ⟨rfl, rfl, rfl⟩ := trodAll_nil r0
  obtain rfl : args = #[v0] := by cases args; simp_all
  obtain ⟨rfl, rfl⟩ := trodVars_none hV
  have k0 := h0
  have lt0 : ∀ x ∈ p0, x.block < W.heap.size := by obtain ⟨m, hm⟩ := k0; exact DataW.trod_lt m _ _ _ hm
  obtain ⟨x0, rfl, hx0⟩ := open_i64 Tryd.underlying3 (hval 0 3 v0 rfl rfl) h0
  clear hA0 hval0
  refine (walkJsonDeep x0 W hx0 (laidTab hL)).mono fun e W' ⟨he, bel⟩ => ?_
  subst he
  exact ⟨_, rfl, _, _, _, [], _, [], hW', trodAll_mk1 (shut_bool Tryd.underlying4 _), (trodAll_cons_mk (Below.trod laidOut (by kernel_rfl) (of_decide_eq_true (by kernel_rfl)) k0 bel lt0) trodAll_mk0), rfl, bel.frame _, fun h => by cases h⟩
set_option maxRecDepth 100000 in
theorem lifted (os : Os) (started : os.Started) (H : Type) (enc : TypeId × Value → H) (F : Stop.Interp) :
    ReturnsInHanded {} Tryd.checked os 10 .any ((OpenSpec.ofChange Rows.jsonDeepSpec).preRow enc Tryd.prog Tryd.f10 Rows.jsonDeepRow.domain false Rows.jsonDeepRow.laid) (((OpenSpec.ofChange Rows.jsonDeepSpec).at F).post enc Tryd.prog Tryd.f10 false true false false) := by
  obtain ⟨places, hx⟩ := reads os enc
  refine returnsInHanded_of_row (C := Tryd.checked) (s := OpenSpec.ofChange Rows.jsonDeepSpec) own started (by kernel_rfl) Tryd.func10
    (witness_row_at (enc := enc) (C := Tryd.checked) false (laidWorld os) #[.int .i64 0] rfl (by kernel_rfl) (by kernel_rfl) (by kernel_rfl)
      (OpenSpec.preRow_of_cond 8 hx (by kernel_rfl) (fun k hk => by cases hk) (by kernel_rfl) (laid_met os))) ?_
  intro W base args ds gs before hval hW _ _ _ hL _ _
  exact contract H enc W base args ds gs before hval hW hL
theorem said : Rows.JsonDeepSaid :=
  OpenClaim.holds_of_cond 10 Tryd.f10 rfl rfl rfl rfl rfl rfl rfl ⟨rfl, rfl, rfl, rfl, rfl⟩ rfl rfl rfl rfl rfl (by kernel_rfl) Tryd.func10 (by kernel_rfl)
    (of_decide_eq_true (by kernel_rfl)) (by unfold Func.isWrapper; first | (rw [if_pos (by decide +kernel)]; kernel_rfl) | (rw [if_neg (by decide +kernel)]; exact ⟨rfl, rfl⟩))
    (fun os started H enc _ F => by rw [OpenClaim.pre_eq_preRow]; exact lifted os started H enc F)
theorem plain (f : FuncId) (fn : Func) (hf : Tryd.pinned.checked.prog.funcNamed "bagnall/bagnallkeep.JsonDeep" = some f) (hfn : Tryd.pinned.checked.prog.funcs[f]? = some fn) :
    false = Tryd.pinned.checked.prog.looks [] ∧ ∀ (j : Nat) t, fn.params[j]? = some t → Tryd.pinned.checked.prog.wantsStandIn t = false := by
  obtain rfl : f = 10 := Option.some.inj ((show Tryd.prog.funcNamed "bagnall/bagnallkeep.JsonDeep" = some 10 by kernel_rfl).symm.trans hf) |>.symm
  obtain rfl : fn = Tryd.f10 := (Option.some.inj (Tryd.func10.symm.trans hfn)).symm
  refine ⟨by kernel_rfl, fun j t ht => ?_⟩
  rw [Tryd.params10] at ht
  have hm := Array.mem_of_getElem? ht
  obtain rfl : t = 3 := by simpa using hm
  exact (show Tryd.prog.wantsStandIn 3 = false by kernel_rfl)
theorem proved : Rows.JsonDeepCardSaid :=
  Claim7.holds_tied_plain_at .later [] _ _ _ _ said (fun _ h => by cases h) (by kernel_rfl) (fun _ h => by cases h) jsonDeep_row_tie rfl ⟨rfl, rfl⟩ (by kernel_rfl) rfl plain (by kernel_rfl)
#print axioms proved
end jsonDeep
end Go.Proofs.YtipahkfieljoiaaDoor
