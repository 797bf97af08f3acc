/- Proved here: for every string, its first 90 bytes, written as a JSON string, come back by parsing, and the text bears no byte below 32 (statement JsonStrings). No condition. -/
import Derived.Test.YtipahkfieljoiaaDoorJParse
import Derived.Test.YtipahkfieljoiaaDoorJBackN
import Derived.Test.YtipahkfieljoiaaDoorLaid
import Derived.Test.YtipahkfieljoiaaDoorOpen
namespace Go.Proofs.YtipahkfieljoiaaDoor
open Go.RowKit

theorem strV_fault (t : List UInt8) : fault 0 (.mk 5 0 t [] []) = 0 := by
  unfold fault
  rw [if_neg]
  · unfold faults; rfl
  · simp [alone, JV.kind, JV.num, JV.text, JV.keys, JV.parts, unused]
theorem strV_text (t : List UInt8) : jtext (.mk 5 0 t [] []) = quo t := by rw [jtext]; rfl
theorem strV_check (t : List UInt8) (h : t.length ≤ 99) : checkN (.mk 5 0 t [] []) = 0 := by
  unfold checkN
  have h1 : count (.mk 5 0 t [] []) = 1 := by simp [count, counts]
  have h2 := (quo_len t).2
  rw [if_neg (by rw [strV_fault]; simp), if_neg (by rw [h1, strV_text]; omega)]
theorem quo_valAt (t : List UInt8) (n : Nat) (h : (quo t).length ≤ 1048000) : ValAt (quo t) (skip (quo t)) (n + 1) := by
  have hs : skip (quo t) = quo t := skip_non (by decide)
  rw [hs]
  intro g w hr
  exact value_string n g (quo t) (quo t) w hr h (pre_head (by decide)) (pre_head (by decide)) (pre_head (by decide)) ((hasPrefix_one _ _).2 rfl)
theorem quo_read (t : List UInt8) : readR (quo t) = some (.mk 5 0 t [] []) := by
  rw [← strV_text]
  exact readR_text _ (fine_of 0 _ (strV_fault t))

def StrsR (s : List UInt8) (w : World) (gk : Nat) (i : Value) (wr : World) : Prop := ∃ k : Nat, i = .int .i64 k ∧ k ≤ s.length ∧ gk = s.length - k ∧ w = wr

attribute [local go_sem high] str_mk
set_option maxRecDepth 100000 in
set_option maxHeartbeats 4000000 in
theorem walkJsonStrings (l0 : List UInt8) (w : World) (hx0 : l0.length ≤ maxLen) (htab : Tab w.heap.size w) :
    Calls Tryd.prog 9 #[str l0] w fun e w' => e = .returned (.bool true) ∧ Below w.heap.size w w' := by
  unfold maxLen at hx0
  obtain ⟨m, hm⟩ : ∃ m : Nat, m = min l0.length 90 := ⟨_, rfl⟩
  have hmin : min (l0.length : Int) 90 = (m : Int) := by omega
  have hle : m ≤ 90 := by omega
  have hml : m ≤ l0.length := by omega
  have hsl := fun W => run_str_h (P := Tryd.prog) W 9 Tryd.underlying9 l0 .i64 (m : Int) m rfl hml
  obtain ⟨t, ht⟩ : ∃ t, t = l0.take m := ⟨_, rfl⟩
  have htl : t.length ≤ 90 := by rw [ht, List.length_take]; omega
  rw [← ht] at hsl
  clear ht hm
  obtain ⟨tb, htb⟩ := str_open t
  have Htb := Lib.hid htb
  rw [htb] at hsl
  clear htb
  have hq := quo_len t
  have hge := quo_ge t
  have Hge := Lib.hid hge
  have hck := strV_check t (by omega)
  have hcnt : count (.mk 5 0 t [] []) ≤ 1073741824 := by simp [count, counts]
  have HT := Lib.hid (show textR (.mk 5 0 t [] []) = .tuple #[str (quo t), .int .i64 0] by unfold textR; rw [hck, if_pos rfl, strV_text])
  have Hpe := Lib.hid (show parseE (quo t) = 0 by unfold parseE; rw [if_neg (by omega), quo_read]; exact hck)
  have Hrd := Lib.hid (quo_read t)
  clear hck hge
  go_enter Tryd.func9, Tryd.ntmps9
  go_wp2_with fail
  rw [← Htb.out]
  refine (Text_any (.mk 5 0 t [] []) [.int .i64 5, .int .i64 0, str t, .slice none 0 0, .slice none 0 0] w 0 (Nat.zero_le _) (VInS.toB (S := fun _ => False) (fun b h => h.elim) _ _ (vin_str w _ t (by omega))) htab hcnt).mono ?_
  rintro e x1 ⟨rfl, hb1⟩
  rw [HT.out]
  generalize hu : quo t = u at *
  have Hu := Lib.hid hu
  clear hu
  go_wp2_with fail
  refine (Parse_any u x1 (fun _ => by rw [← Hu.out]; exact quo_valAt t _ (by rw [Hu.out]; omega)) (by omega) (htab.on hb1).here).mono ?_
  intro e x2 ho
  rcases ho with ⟨v, cs, _, hrd, _, rfl, hv, hbl⟩ | ⟨hne, _⟩
  · rw [Hrd.out] at hrd
    injection hrd with hrd
    subst hrd
    unfold VInS at hv
    obtain ⟨Ak, ck, Ap, cp, pc, rfl, _⟩ := hv
    clear Hrd Hpe HT
    have hlb : decide ((u.length : Int) < (t.length : Int) + 2) = false := by simp; omega
    have hlb2 : ¬ u.length < t.length + 2 := by omega
    go_wp2_with fail
    go_loopg [8] u.length (StrsR u (x2.alloc (.cells #[.int .i64 5, .int .i64 0, str t, .slice Ak 0 ck, .slice Ap 0 cp] 25)))
    case atStart => exact ⟨0, rfl, by omega, by omega, rfl⟩
    case round =>
      obtain ⟨k, rfl, hk, hgk, rfl⟩ := hrel
      have Hgk := Lib.hid hgk
      clear hgk
      by_cases hlt : k < u.length
      · have hidx := fun W => run_index_str (P := Tryd.prog) W 9 u .i64 k Tryd.underlying9 hlt
        have hc32 := Hge.out u[k] (List.getElem_mem hlt)
        generalize u[k] = c at *
        go_wp2_with fail
        go_roundg (u.length - (k + 1))
        case measure => have := Hgk.out; omega
        case rel => exact ⟨k + 1, by go_num, by omega, rfl, rfl⟩
      · go_wp2_with fail
        go_ret
        exact ⟨rfl, (hb1.trans (hbl.mono hb1.size)).alloc (Nat.le_trans hb1.size hbl.size) _⟩
  · exact absurd Hpe.out hne
namespace jsonStrings
open Go.ChangeShapes Go.WideShapes Go.ChangeAt Go.RowKit
theorem own : ownKnob Tryd.prog.godebug = none := by kernel_rfl
theorem laidOut : laidOutB Tryd.prog = true := by kernel_rfl
set_option linter.unusedVariables false
theorem laid_met (os : Os) : laidMet Tryd.prog Rows.jsonStringsRow.laid ((laidWorld os).forCall (fun _ _ => 0) ⟨#[], #[.string ByteArray.empty], []⟩).memory :=
  laidMet_of_run' 8 (by kernel_rfl) (by kernel_rfl)
theorem reads (os : Os) {H : Type} (enc : TypeId × Value → H) : ∃ places, DataW.whole enc Tryd.prog ((laidWorld os).forCall (fun _ _ => 0) ⟨#[], #[.string ByteArray.empty], []⟩).memory Tryd.f9.params.toList Rows.jsonStringsSpec.vars false #[Value.string ByteArray.empty].toList 8 = some ([.lit (.string [])], [], places) :=
  ⟨[], by kernel_rfl⟩
set_option maxRecDepth 100000 in
theorem contract (H : Type) (enc : TypeId × Value → H) (W : World) (base : Nat) (args : Array Value) (ds gs : List (DataW H)) (before : List MemPlace)
    (hval0 : ∀ (j : Nat) t v, Tryd.f9.params[j]? = some t → args[j]? = some v → Value.okWide Tryd.prog W .any base t v)
    (hW : DataW.Whole enc Tryd.prog Tryd.f9.params.toList Rows.jsonStringsSpec.vars false W args.toList ds gs before) (hL : laidMetH Tryd.prog Rows.jsonStringsRow.laid W) :
    Calls Tryd.prog 9 args W fun e W' => ∃ v, e = .returned v ∧ Rows.jsonStringsSpec.post enc Tryd.prog Tryd.f9 false true false false W args v W' := by
  have hval : ∀ (j : Nat) t v, Tryd.f9.params[j]? = some t → args[j]? = some v → Value.okWide Tryd.prog W .any base t v := hval0
  have hW' := hW
  obtain ⟨p, q, hA0, hV, rfl, hfz, hnd⟩ := hW
  have hA : DataW.TrodAll enc Tryd.prog W 0 (fun _ => true) true Tryd.f9.params.toList args.toList ds p := hA0
  rw [Tryd.params9] at hA hval
  obtain ⟨v0, vs0, d0, ds0, p0, q0, hargs, rfl, rfl, h0, r0⟩ := trodAll_cons hA
  obtain ⟨rfl, rfl, rfl⟩ := trodAll_nil r0
  obtain rfl : args = #[v0] := by cases args; simp_all
  obtain ⟨rfl, rfl⟩ := trodVars_none hV
  have k0 := h0
  have lt0 : ∀ x ∈ p0, x.block < W.heap.size := by obtain ⟨m, hm⟩ := k0; exact DataW.trod_lt m _ _ _ hm
  obtain ⟨l0, rfl, hx0⟩ := open_str Tryd.underlying9 (hval 0 9 v0 rfl rfl) h0
  clear hA0 hval0
  refine (walkJsonStrings l0 W hx0 (laidTab hL)).mono fun e W' ⟨he, bel⟩ => ?_
  subst he
  exact ⟨_, rfl, _, _, _, [], _, [], hW', trodAll_mk1 (shut_bool Tryd.underlying4 _), (trodAll_cons_mk (Below.trod laidOut (by kernel_rfl) (of_decide_eq_true (by kernel_rfl)) k0 bel lt0) trodAll_mk0), rfl, bel.frame _, fun h => by cases h⟩
set_option maxRecDepth 100000 in
theorem lifted (os : Os) (started : os.Started) (H : Type) (enc : TypeId × Value → H) (F : Stop.Interp) :
    ReturnsInHanded {} Tryd.checked os 9 .any ((OpenSpec.ofChange Rows.jsonStringsSpec).preRow enc Tryd.prog Tryd.f9 Rows.jsonStringsRow.domain false Rows.jsonStringsRow.laid) (((OpenSpec.ofChange Rows.jsonStringsSpec).at F).post enc Tryd.prog Tryd.f9 false true false false) := by
  obtain ⟨places, hx⟩ := reads os enc
  refine returnsInHanded_of_row (C := Tryd.checked) (s := OpenSpec.ofChange Rows.jsonStringsSpec) own started (by kernel_rfl) Tryd.func9
    (witness_row_at (enc := enc) (C := Tryd.checked) false (laidWorld os) #[.string ByteArray.empty] rfl (by kernel_rfl) (by kernel_rfl) (by kernel_rfl)
      (OpenSpec.preRow_of_cond 8 hx (by kernel_rfl) (fun k hk => by cases hk) (by kernel_rfl) (laid_met os))) ?_
  intro W base args ds gs before hval hW _ _ _ hL _ _
  exact contract H enc W base args ds gs before hval hW hL
theorem said : Rows.JsonStringsSaid :=
  OpenClaim.holds_of_cond 9 Tryd.f9 rfl rfl rfl rfl rfl rfl rfl ⟨rfl, rfl, rfl, rfl, rfl⟩ rfl rfl rfl rfl rfl (by kernel_rfl) Tryd.func9 (by kernel_rfl)
    (of_decide_eq_true (by kernel_rfl)) (by unfold Func.isWrapper; first | (rw [if_pos (by decide +kernel)]; kernel_rfl) | (rw [if_neg (by decide +kernel)]; exact ⟨rfl, rfl⟩))
    (fun os started H enc _ F => by rw [OpenClaim.pre_eq_preRow]; exact lifted os started H enc F)
theorem plain (f : FuncId) (fn : Func) (hf : Tryd.pinned.checked.prog.funcNamed "bagnall/bagnallkeep.JsonStrings" = some f) (hfn : Tryd.pinned.checked.prog.funcs[f]? = some fn) :
    false = Tryd.pinned.checked.prog.looks [] ∧ ∀ (j : Nat) t, fn.params[j]? = some t → Tryd.pinned.checked.prog.wantsStandIn t = false := by
  obtain rfl : f = 9 := Option.some.inj ((show Tryd.prog.funcNamed "bagnall/bagnallkeep.JsonStrings" = some 9 by kernel_rfl).symm.trans hf) |>.symm
  obtain rfl : fn = Tryd.f9 := (Option.some.inj (Tryd.func9.symm.trans hfn)).symm
  refine ⟨by kernel_rfl, fun j t ht => ?_⟩
  rw [Tryd.params9] at ht
  have hm := Array.mem_of_getElem? ht
  obtain rfl : t = 9 := by simpa using hm
  exact (show Tryd.prog.wantsStandIn 9 = false by kernel_rfl)
theorem proved : Rows.JsonStringsCardSaid :=
  Claim7.holds_tied_plain_at .later [] _ _ _ _ said (fun _ h => by cases h) (by kernel_rfl) (fun _ h => by cases h) jsonStrings_row_tie rfl ⟨rfl, rfl⟩ (by kernel_rfl) rfl plain (by kernel_rfl)
#print axioms proved
end jsonStrings
end Go.Proofs.YtipahkfieljoiaaDoor
