/- Proved here: changes with new keys succeed exactly up to MaxRows rows (statement RowsFull). No condition. -/
import Derived.Test.YtecpccdmmaigiaaRwSet
import Derived.Test.YtecpccdmmaigiaaRwNext
import Derived.Test.YtecpccdmmaigiaaPicked
import Derived.Test.YtecpccdmmaigiaaRwCel
import Derived.Test.YtecpccdmmaigiaaOpen
namespace Go.Proofs.Ytecpccdmmaigiaa
set_option linter.unusedVariables false
set_option linter.unusedSimpArgs false
open Go.RowKit
def fullRow (i : Nat) : Rw := ⟨[107, UInt8.ofNat (i + 33)], [118]⟩
def fullR (k : Nat) : List Rw := (List.range k).map fullRow
theorem fullR_succ (k : Nat) : fullR (k + 1) = fullR k ++ [fullRow k] := by unfold fullR; rw [List.range_succ, List.map_append]; rfl
theorem fullR_len (k : Nat) : (fullR k).length = k := by unfold fullR; simp
theorem setR_end {c : Rw} (hc : c.val ≠ []) : ∀ {l : List Rw}, (∀ r ∈ l, Op.bytesLess r.key c.key = true) → setR c l = l ++ [c]
  | [], _ => by unfold setR; rw [if_neg hc]; rfl
  | r :: l, h => by
    unfold setR
    rw [if_pos (h r (by simp)), setR_end hc fun q hq => h q (by simp [hq])]; rfl
theorem full_less {i j : Nat} (hij : i < j) (hj : j < 60) : Op.bytesLess (fullRow i).key (fullRow j).key = true := by
  show Op.bytesLess [107, UInt8.ofNat (i + 33)] [107, UInt8.ofNat (j + 33)] = true
  rw [bl_self, bl_cons]
  have : UInt8.ofNat (i + 33) < UInt8.ofNat (j + 33) := by
    rw [UInt8.lt_iff_toNat_lt, UInt8.toNat_ofNat', UInt8.toNat_ofNat', Nat.mod_eq_of_lt (by omega), Nat.mod_eq_of_lt (by omega)]; omega
  rw [decide_eq_true this, Bool.true_or]
theorem full_sets : ∀ k : Nat, k ≤ 60 → sets [] (fullR k) = fullR k
  | 0, _ => rfl
  | k + 1, h => by
    rw [fullR_succ, sets_app, full_sets k (by omega)]
    show setR (fullRow k) (fullR k) = _
    rw [setR_end (by simp [fullRow])]
    intro r hr
    obtain ⟨i, hi, rfl⟩ := List.mem_map.1 hr
    exact full_less (List.mem_range.1 hi) (by omega)
theorem full_good (k : Nat) : goodC (fullR k) = true := by
  unfold goodC fullR
  rw [List.all_map, List.all_eq_true]
  intro i _
  simp [sizedR, fullRow]
theorem full_N {k : Nat} (hk : k < 60) : setN [] (fullR k) = if 40 < k then ([], 10) else (fullR k, 0) := by
  unfold setN
  rw [if_neg (by simp [chkT, chkGo]), if_neg (by rw [full_good, fullR_len]; simp; omega), full_sets k (by omega), fullR_len]
theorem full_short (k : Nat) : Short (fullR k) := by
  intro r hr
  obtain ⟨i, hi, rfl⟩ := List.mem_map.1 hr
  simp [fullRow]
def FullL (w : World) (K : Nat) (gk : Nat) (s4 s5 : Value) (wr : World) : Prop :=
  ∃ i : Nat, s5 = .int .i64 (i : Int) ∧ i ≤ K ∧ gk = K - i ∧ wr.ownsRow w.heap.size 40 2 s4 i (pcR (fullR i)) ∧ Below w.heap.size w wr
set_option maxHeartbeats 2000000 in
set_option maxRecDepth 100000 in
theorem walkRowsFull (x0 : Int) (w : World) (hx0 : -9223372036854775808 ≤ x0 ∧ x0 ≤ 9223372036854775807) :
    Calls Try.prog 13 #[.int .i64 x0] w fun e w' => e = .returned (.bool true) ∧ Below w.heap.size w w' := by
  obtain ⟨K, hK, hK60⟩ : ∃ K : Nat, x0 % 60 = (K : Int) ∧ K < 60 := by
    have h0 := Int.emod_nonneg x0 (show (60 : Int) ≠ 0 by decide)
    have h1 := Int.emod_lt_of_pos x0 (show (0 : Int) < 60 by decide)
    exact ⟨(x0 % 60).toNat, by omega, by omega⟩
  have HP := Lib.hid (picked_any x0 60 w (by decide) (by decide))
  rw [hK] at HP
  clear hK
  go_enter Try.func13, Try.ntmps13
  go_wp2_with fail
  refine HP.out.mono ?_
  rintro e w1 ⟨rfl, rfl⟩
  clear HP
  go_wp2_with fail
  go_loopg [4, 5] K (FullL w K)
  case atStart => exact ⟨0, rfl, Nat.zero_le _, by omega, World.ownsRow_nil _ _ _ _, Below.refl _ _⟩
  case round =>
    obtain ⟨i, rfl, hi, hgk, ho, hbe⟩ := hrel
    have Hgk := Lib.hid hgk
    have Ho := Lib.hid ho
    have Hbe := Lib.hid hbe
    have hszw := hbe.size
    clear hgk ho hbe
    by_cases hik : i < K
    · have hi1 : (i : Int) < (K : Int) := by omega
      have hw0 : IntKind.i64.wrap ((i : Int) + 33) = (i : Int) + 33 := IntWalk.i64_in _ (by omega)
      have hw1 : IntKind.u8.wrap ((i : Int) + 33) = (i : Int) + 33 := IntWalk.u8_in _ (by omega)
      obtain ⟨ch, hch⟩ : ∃ ch, ch = UInt8.ofNat (i + 33) := ⟨_, rfl⟩
      have hcn : ch.toNat = i + 33 := by rw [hch, UInt8.toNat_ofNat', Nat.mod_eq_of_lt (by omega)]
      have hx0' : (wr.alloc (.cells #[.int .u8 ((i : Int) + 33)] 5)).cell? ⟨wr.heap.size, 0, none⟩ = some (bv ch) := by
        have := (Blk.new wr 5 #[.int .u8 ((i : Int) + 33)]).cell 0
        rw [this]; unfold bv; rw [hcn]; rfl
      have hcv := rw_conv_one ch hx0'
      have hadd : ∀ W, (binOp .add 9 (.string ⟨#[107]⟩) (str [ch])).run Try.prog W = .ok (str [107, ch]) W := rw_addL (P := Try.prog) 9 [107] [ch] (by simp)
      obtain ⟨v', wf, hrun, ho', hg'⟩ := run_app_row (wr.alloc (.cells #[.int .u8 ((i : Int) + 33)] 5)) w.heap.size i u4 (fullR i) ⟨[107, ch], [118]⟩ (Ho.out.alloc _) (by omega) (by simp; omega)
      have hfs : fullR i ++ [(⟨[107, ch], [118]⟩ : Rw)] = fullR (i + 1) := by rw [fullR_succ, hch]; rfl
      rw [hfs] at ho'
      have Hb' := Lib.hid (below_own ((Hbe.out.alloc hszw _).alloc (by simp; omega) _) hg' ((Ho.out.alloc _).alloc _) (Nat.le_refl _) (by simp; omega))
      rw [World.size_alloc] at hrun
      obtain ⟨key, hkey⟩ : ∃ key, key = [107, ch] := ⟨_, rfl⟩
      rw [← hkey] at hadd
      replace hrun : (Builtin.append_ #[22, 22] 22 #[u4, .slice (some ⟨wr.heap.size + 1, 0, none⟩) 1 1]).run Try.prog ((wr.alloc (.cells #[.int .u8 ((i : Int) + 33)] 5)).alloc (.cells #[str key, .string ⟨#[118]⟩] 40)) = .ok v' wf := by rw [hkey]; exact hrun
      have Hrun := Lib.hid hrun
      have Ho' := Lib.hid ho'
      clear hrun ho' hg' hfs hch hcn hx0' Ho hkey
      go_wp2_with (first | (at_builtin; refine rw_app rfl _ _ _ rfl _ _ (by rfl) (by rfl) Hrun.out ?_; clear Hrun) | fail)
      go_roundg (K - (i + 1))
      case measure => have := Hgk.out; omega
      case rel => exact ⟨i + 1, by go_num, by omega, rfl, Ho'.out, Hb'.out⟩
    · obtain rfl : i = K := by omega
      have hi1 : ¬ (i : Int) < (i : Int) := by omega
      obtain ⟨Ax, cx, hx, hin⟩ := RIn.own Ho.out
      subst hx
      have HS := Lib.hid (set_any none Ax 0 0 i cx wr.heap.size wr.heap.size [] (fullR i) wr RIn.empty (Nat.le_refl _) (by simp [Short]) (by omega) hin (Nat.le_refl _) (full_short i) (by omega))
      rw [full_N hK60] at HS
      clear hin Ho
      by_cases h40 : 40 < i
      · rw [if_pos h40] at HS
        have h4 : (40 : Int) < (i : Int) := by omega
        go_wp2_with fail
        refine HS.out.mono ?_
        rintro e w2 ⟨v, rfl, ho, hb⟩
        obtain ⟨A2, c2, rfl, _⟩ := own_form ho
        have Hb := Lib.hid (Hbe.out.trans (hb.mono hszw))
        clear ho hb HS
        go_wp2_with fail
        go_ret
        exact ⟨rfl, Hb.out⟩
      · rw [if_neg h40] at HS
        have h4 : ¬ (40 : Int) < (i : Int) := by omega
        have hfl := fullR_len i
        go_wp2_with fail
        refine HS.out.mono ?_
        rintro e w2 ⟨v, rfl, ho, hb⟩
        replace ho : w2.ownsRow wr.heap.size 40 2 v (fullR i).length (pcR (fullR i)) := ho
        rw [hfl] at ho
        obtain ⟨A2, c2, rfl, _⟩ := own_form ho
        have Hb := Lib.hid (Hbe.out.trans (hb.mono hszw))
        clear ho hb HS hfl
        go_wp2_with fail
        go_ret
        exact ⟨by simp, Hb.out⟩
namespace rowsFull
open Go.ChangeShapes Go.WideShapes Go.ChangeAt Go.RowKit
theorem own : ownKnob Try.prog.godebug = none := by kernel_rfl
theorem laidOut : laidOutB Try.prog = true := by kernel_rfl
set_option linter.unusedVariables false
set_option maxRecDepth 100000 in
theorem lifted (os : Os) (started : os.Started) (H : Type) (enc : TypeId × Value → H) :
    ReturnsInHanded {} Try.checked os 13 .any (Rows.rowsFullSpec.pre6 enc Try.prog Try.f13 Rows.rowsFullRow.domain false) (Rows.rowsFullSpec.post enc Try.prog Try.f13 false true false false) := by
  refine returnsInHanded_of_change (C := Try.checked) own started (by kernel_rfl) Try.func13
    (ChangeSpec.witness6 (enc := enc) (C := Try.checked) false ⟨#[], #[.int .i64 0], []⟩ 8 (by kernel_rfl) (by kernel_rfl) (by kernel_rfl) (by kernel_rfl)) ?_
  intro W base args ds gs before hval0 hW hcnd _
  have hval : ∀ (j : Nat) t v, Try.f13.params[j]? = some t → args[j]? = some v → Value.okWide Try.prog W .any base t v := hval0
  have hW' := hW
  obtain ⟨p, q, hA0, hV, rfl, hfz, hnd⟩ := hW
  have hA : DataW.TrodAll enc Try.prog W 0 (fun _ => true) true Try.f13.params.toList args.toList ds p := hA0
  rw [Try.params13] at hA hval
  obtain ⟨v0, vs0, d0, ds0, p0, q0, hargs, rfl, rfl, h0, rr0⟩ := trodAll_cons hA
  obtain ⟨rfl, rfl, rfl⟩ := trodAll_nil rr0
  obtain rfl : args = #[v0] := by cases args; simp_all
  obtain ⟨rfl, rfl⟩ := trodVars_none hV
  have k0 := h0
  have lt0 : ∀ x ∈ p0, x.block < W.heap.size := by obtain ⟨m, hm⟩ := k0; exact DataW.trod_lt m _ _ _ hm
  obtain ⟨x0, rfl, hx0⟩ := open_i64 Try.underlying3 (hval 0 3 v0 rfl rfl) h0
  clear hA0 hval0
  refine (walkRowsFull x0 W hx0).mono fun e W' ⟨he, bel⟩ => ?_
  subst he
  exact ⟨_, rfl, _, _, _, [], _, [], hW', trodAll_mk1 (shut_bool Try.underlying4 _), (trodAll_cons_mk (Below.trod laidOut (by kernel_rfl) (of_decide_eq_true (by kernel_rfl)) k0 bel lt0) trodAll_mk0), rfl, bel.frame _, fun h => by cases h⟩

theorem over : Rows.rowsFullRow.holds Try.pinned (OpenSpec.ofChange Rows.rowsFullSpec) :=
  OpenClaim.holds_of_wide 13 Try.f13 rfl rfl rfl rfl rfl rfl rfl ⟨rfl, rfl, rfl, rfl, rfl⟩ rfl rfl rfl rfl rfl (by kernel_rfl) Try.func13 (by kernel_rfl)
    (of_decide_eq_true (by kernel_rfl)) (by unfold Func.isWrapper; first | (rw [if_pos (by decide +kernel)]; kernel_rfl) | (rw [if_neg (by decide +kernel)]; exact ⟨rfl, rfl⟩))
    (fun os started H enc _ => lifted os started H enc)

theorem proved : Rows.RowsFullSaid := over
#print axioms proved
end rowsFull
end Go.Proofs.Ytecpccdmmaigiaa
