/- The message box: copied. -/
import Derived.Test.YtmlgaedhfannmaaBxFn
import Derived.Test.YtmlgaedhfannmaaBxDel
import Derived.Test.YtmlgaedhfannmaaBunQ
import Derived.Test.YtmlgaedhfannmaaNKeep
import Derived.OwnWalk
namespace Go.Proofs.Ytmlgaedhfannmaa
set_option linter.unusedVariables false
set_option linter.unusedSimpArgs false
open Go.RowKit
theorem bxClone_any (s : List UInt8) (w : World) (hs : s.length ≤ 1000) :
    Calls Try.prog 66 #[str s] w fun e w' => e = .returned (str s) ∧ Below w.heap.size w w' := by
  go_enter Try.func66, Try.ntmps66
  go_wp2_with fail
  refine (Try.stringslite_Clone ⟨s.toArray⟩ _ (by show s.length ≤ _; omega)).mono ?_
  rintro e w1 ⟨rfl, hb⟩
  go_wp2_with fail
  go_ret
  exact ⟨rfl, hb⟩
theorem user_len {s : List UInt8} (h : user s ≠ none) : s.length ≤ 42 := by
  cases hu : user s with
  | none => exact absurd hu h
  | some ab =>
    obtain ⟨a, b⟩ := ab
    obtain ⟨rfl, h1, h2⟩ := user_some hu
    have h3 := (isNm_len h1).2.1
    have h4 := (isNm_len (srv_isNm h2)).2.1
    simp
    omega
/-- Messages whose strings are short. -/
def FewM (l : List Ml) : Prop := ∀ m ∈ l, m.frm.length ≤ 100 ∧ m.body.length ≤ 100
theorem fewM_mlF : ∀ (n : Nat) (l : List Pt), (∀ q ∈ l, user q.frm ≠ none ∧ q.body.length ≤ 20) → FewM (mlF n l)
  | _, [], _ => by intro m hm; simp [mlF] at hm
  | n, p :: l, h => by
    intro m hm
    simp only [mlF, List.mem_cons] at hm
    rcases hm with rfl | hm
    · have h1 := h p (by simp)
      have h2 := user_len h1.1
      exact ⟨by simp only; omega, by simp only; omega⟩
    · exact fewM_mlF (n + 1) l (fun q hq => h q (by simp [hq])) m hm
theorem Bs.few.wait {s : Bs} (h : s.few) : FewM s.wait := fewM_mlF _ _ fun q hq => h q (List.mem_of_mem_drop hq)
/-- The loop of copied: k messages are copied. -/
def CpM (l : List Ml) (w : World) (n : Nat) (gk : Nat) (s3 s8 : Value) (wr : World) : Prop :=
  ∃ k : Nat, s8 = .int .i64 (k : Int) ∧ k ≤ n ∧ gk = n - k ∧ wr.ownsRow w.heap.size 115 3 s3 k (pcK mlL (l.take k)) ∧ Below w.heap.size w wr
set_option maxHeartbeats 2000000 in
set_option maxRecDepth 100000 in
theorem copiedM_any (A : Option Addr) (n c B : Nat) (l : List Ml) (w : World) (hl : LIn mlL 3 w B A n c l) (hB : B ≤ w.heap.size) (hs : FewM l) (hn : n ≤ 1000) :
    Calls Try.prog 137 #[.slice A n c] w fun e w' => ∃ v, e = .returned v ∧ w'.ownsRow w.heap.size 115 3 v n (pcK mlL l) ∧ Below w.heap.size w w' := by
  have hln := hl.1
  have Hl := Lib.hid hl
  have Hs := Lib.hid hs
  have Hln := Lib.hid hln
  clear hl hs hln
  go_enter Try.func137, Try.ntmps137
  go_wp2
  go_loopg [3, 8] n (CpM l w n)
  case atStart => exact ⟨0, rfl, Nat.zero_le _, by omega, by rw [List.take_zero]; exact World.ownsRow_nil _ _ _ _, Below.refl _ _⟩
  case round =>
    obtain ⟨k, rfl, hk, hgk, ho, hbe⟩ := hrel
    have Hgk := Lib.hid hgk
    have Hbe := Lib.hid hbe
    have hszw := hbe.size
    clear hgk hbe
    by_cases hkn : k < n
    · have hkl : k < l.length := by rw [Hln.out]; exact hkn
      obtain ⟨b, off, hA, hbB, c0, c1, c2⟩ := ml_at (Hl.out.below (Hbe.out.mono hB)) hkl
      subst hA
      have hbw : b < wr.heap.size := by omega
      have hsh := Hs.out l[k] (List.getElem_mem _)
      have Htk := Lib.hid (List.take_succ_eq_append_getElem hkl)
      obtain ⟨ra, rk, rv, hr⟩ : ∃ ra rk rv, l[k] = ⟨ra, rk, rv⟩ := ⟨_, _, _, rfl⟩
      rw [hr] at c0 c1 c2 hsh Htk
      obtain ⟨hk20, hv20⟩ := hsh
      simp only at c0 c1 c2 hk20 hv20
      have hi1 : ((k : Nat) : Int) < (n : Int) := by omega
      have Ho := Lib.hid ho
      clear ho hr
      obtain ⟨W, hW⟩ : ∃ W, W = wr.alloc (.cells #[.int .i64 ra, str rk, str rv] 115) := ⟨_, rfl⟩
      have HW := Lib.hid hW
      have hWb : Below wr.heap.size wr W := by rw [hW]; exact (Below.refl _ _).alloc (Nat.le_refl _) _
      have hWB := Blk.new wr 115 #[.int .i64 ra, str rk, str rv]
      rw [← hW] at hWB
      have hWs : W.heap.size = wr.heap.size + 1 := by rw [hW]; simp
      clear hW
      obtain ⟨Wd, hWd⟩ : ∃ Wd, Wd = W.drew := ⟨_, rfl⟩
      have HWd := Lib.hid hWd
      have hds : Wd.heap.size = wr.heap.size + 1 := by rw [hWd]; exact hWs
      have hbd : Below wr.heap.size wr Wd := by rw [hWd]; exact below_drewN hWb 1
      have HBd := Lib.hid (show Blk Wd wr.heap.size 115 #[.int .i64 ra, str rk, str rv] by rw [hWd]; exact hWB)
      have hS0 : Wd.cell? ⟨wr.heap.size, 0, none⟩ = some (.int .i64 ra) ∧ Wd.cell? ⟨wr.heap.size, 1, none⟩ = some (str rk) ∧ Wd.cell? ⟨wr.heap.size, 2, none⟩ = some (str rv) := ⟨HBd.out.cell 0, HBd.out.cell 1, HBd.out.cell 2⟩
      clear hWd hWb hWs hWB
      have HS2 := Lib.hid (show ∀ w2, Below Wd.heap.size Wd w2 → w2.cell? ⟨wr.heap.size, 0, none⟩ = some (.int .i64 ra) ∧ w2.cell? ⟨wr.heap.size, 1, none⟩ = some (str rk) ∧ w2.cell? ⟨wr.heap.size, 2, none⟩ = some (str rv) from
        fun w2 hb2 => by
          have hb := HBd.out.below hb2 (by rw [hds]; exact Nat.lt_succ_self _)
          exact ⟨hb.cell 0, hb.cell 1, hb.cell 2⟩)
      have HT := Lib.hid (show ∀ w2, Below Wd.heap.size Wd w2 → ∃ v' wf, (Builtin.append_ #[77, 77] 77 #[u3, .slice (some ⟨w2.heap.size, 0, none⟩) 1 1]).run Try.prog (w2.alloc (.cells #[.int .i64 ra, str rk, str rv] 115)) = .ok v' wf ∧
          ((w2.alloc (.cells #[.int .i64 ra, str rk, str rv] 115)).cell? ⟨wr.heap.size, 0, none⟩ = some (.int .i64 ra) ∧ (w2.alloc (.cells #[.int .i64 ra, str rk, str rv] 115)).cell? ⟨wr.heap.size, 1, none⟩ = some (str rk) ∧ (w2.alloc (.cells #[.int .i64 ra, str rk, str rv] 115)).cell? ⟨wr.heap.size, 2, none⟩ = some (str rv)) ∧
          (wf.cell? ⟨wr.heap.size, 0, none⟩ = some (.int .i64 ra) ∧ wf.cell? ⟨wr.heap.size, 1, none⟩ = some (str rk) ∧ wf.cell? ⟨wr.heap.size, 2, none⟩ = some (str rv)) ∧
          wf.ownsRow w.heap.size 115 3 v' (k + 1) (pcK mlL (l.take (k + 1))) ∧ Below w.heap.size w wf from fun w2 hb2 => by
        have hb3 := hbd.trans (hb2.mono hbd.size)
        have ho2 := own_below Ho.out hb3
        have hsz2 := hb2.size
        obtain ⟨v', wf, h1, h2, h3, -⟩ := run_app_el (P := Try.prog) (enc := mlL) mlL_len mlL_one (by omega) Try.underlying77 info_mail rfl (by omega) w2 w.heap.size k u3 (l.take k) ⟨ra, rk, rv⟩ #[.int .i64 ra, str rk, str rv] rfl ho2 (by omega) (by omega)
        have hB2 := (HBd.out.below hb2 (by rw [hds]; exact Nat.lt_succ_self _)).alloc (.cells #[.int .i64 ra, str rk, str rv] 115)
        have hne : some wr.heap.size ≠ u3.ownBlock := by
          intro e
          have := World.ownsRow.lt Ho.out wr.heap.size e.symm
          omega
        have hB3 := hB2.grown h3 hne
        refine ⟨v', wf, h1, ⟨hB2.cell 0, hB2.cell 1, hB2.cell 2⟩, ⟨hB3.cell 0, hB3.cell 1, hB3.cell 2⟩, ?_, ?_⟩
        · rw [Htk.out]; exact h2
        · exact below_own ((Hbe.out.trans (hb3.mono hszw)).alloc (by have := hb3.size; omega) _) h3 (ho2.alloc _) (Nat.le_refl _) (by simp; have := hb3.size; omega))
      clear hbd
      go_wp2_with fail
      refine region_S (fun w' => w'.cell? ⟨wr.heap.size, 0, none⟩ = some (.int .i64 ra) ∧ w'.cell? ⟨wr.heap.size, 1, none⟩ = some (str rk) ∧ w'.cell? ⟨wr.heap.size, 2, none⟩ = some (str rv)) [] (by kernel_rfl) ?_
      rw [← HW.out, ← HWd.out]
      refine anyS_take 0 (v := u3) rfl (by kernel_rfl) (by kernel_rfl) (by kernel_rfl) (by kernel_rfl) (fun _ _ _ h => h) (.inl ⟨by kernel_rfl, fun w' hS' => by kernel_rfl⟩) hS0 ?_
      refine anyS_take 1 (v := .pointer (some ⟨wr.heap.size, 0, none⟩)) rfl (by kernel_rfl) (by kernel_rfl) (by kernel_rfl) (by kernel_rfl) (fun _ _ _ h => h) (.inl ⟨by kernel_rfl, fun w' hS' => by kernel_rfl⟩) hS0 ?_
      refine anyS_take 2 (v := .int .i64 ra) rfl (by kernel_rfl) (by kernel_rfl) (by kernel_rfl) (by kernel_rfl) (fun _ _ _ h => h) (.inl ⟨by kernel_rfl, fun w' hS' => by obtain ⟨s0, s1, s2⟩ := hS'; go_simp⟩) hS0 ?_
      refine anyS_take 3 (v := .pointer (some ⟨wr.heap.size, 1, none⟩)) rfl (by kernel_rfl) (by kernel_rfl) (by kernel_rfl) (by kernel_rfl) (fun _ _ _ h => h) (.inl ⟨by kernel_rfl, fun w' hS' => by kernel_rfl⟩) hS0 ?_
      refine anyS_take 4 (v := str rk) rfl (by kernel_rfl) (by kernel_rfl) (by kernel_rfl) (by kernel_rfl) (fun _ _ _ h => h) (.inl ⟨by kernel_rfl, fun w' hS' => by obtain ⟨s0, s1, s2⟩ := hS'; go_simp⟩) hS0 ?_
      refine anyS_take 6 (v := .pointer (some ⟨wr.heap.size, 2, none⟩)) rfl (by kernel_rfl) (by kernel_rfl) (by kernel_rfl) (by kernel_rfl) (fun _ _ _ h => h) (.inl ⟨by kernel_rfl, fun w' hS' => by kernel_rfl⟩) hS0 ?_
      refine anyS_take 7 (v := str rv) rfl (by kernel_rfl) (by kernel_rfl) (by kernel_rfl) (by kernel_rfl) (fun _ _ _ h => h) (.inl ⟨by kernel_rfl, fun w' hS' => by obtain ⟨s0, s1, s2⟩ := hS'; go_simp⟩) hS0 ?_
      refine anyS_one 5 rfl (by kernel_rfl) rfl ?_
      intro K3 hK3
      go_simp
      refine (bxClone_any rk Wd (by omega)).mono ?_
      rintro e w1 ⟨rfl, hb1⟩
      have hS1 := HS2.out w1 hb1
      refine hK3 _ _ ⟨fun _ => hS1, ?_⟩
      refine anyS_one 8 rfl (by kernel_rfl) rfl ?_
      intro K6 hK6
      go_simp
      refine (bxClone_any rv w1 (by omega)).mono ?_
      rintro e w2 ⟨rfl, hb2⟩
      have hbb := hb1.trans (hb2.mono hb1.size)
      have hS2 := HS2.out w2 hbb
      refine hK6 _ _ ⟨fun _ => hS2, ?_⟩
      refine anyS_one 9 rfl (by kernel_rfl) rfl ?_
      intro K7 hK7
      go_simp
      refine hK7 _ _ ⟨fun _ => hS2, ?_⟩
      refine anyS_one 10 rfl (by kernel_rfl) rfl ?_
      intro K8 hK8
      go_simp
      obtain ⟨v', wf, hrun, hS3, hS4, ho', hbf⟩ := HT.out w2 hbb
      refine hK8 _ _ ⟨fun _ => hS3, ?_⟩
      refine anyS_one 11 rfl (by kernel_rfl) rfl ?_
      intro K9 hK9
      refine oper_app _ _ _ rfl _ _ (by rfl) (by rfl) hrun ?_
      refine hK9 _ _ ⟨fun _ => hS4, ?_⟩
      refine anyS_one 12 rfl (by kernel_rfl) rfl ?_
      intro K10 hK10
      go_simp
      refine hK10 _ _ ⟨fun _ => hS4, ?_⟩
      refine anyS_done (by kernel_rfl) ?_
      clear hK3 hK6 hK7 hK8 hK9 hK10
      go_wp2
      go_roundg (n - (k + 1))
      case measure => have := Hgk.out; omega
      case rel => exact ⟨k + 1, rfl, by omega, rfl, ho', hbf⟩
    · go_wp2
      go_ret
      have : k = l.length := by have := Hln.out; omega
      subst this
      have h2 := Hln.out
      refine ⟨u3, rfl, ?_, Hbe.out⟩
      rw [List.take_length, h2] at ho
      exact ho
end Go.Proofs.Ytmlgaedhfannmaa
