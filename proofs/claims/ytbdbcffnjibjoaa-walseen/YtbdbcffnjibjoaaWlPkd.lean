/- packed of the statements: what the call returns. -/
import Derived.Test.YtbdbcffnjibjoaaWlBat
import Derived.Test.YtbdbcffnjibjoaaWlPack
namespace Go.Proofs.Ytbdbcffnjibjoaa
set_option linter.unusedVariables false
set_option linter.unusedSimpArgs false
open Go.RowKit
theorem info_wint : (Try.prog.info? 3).map (fun i => (i.zero, i.size, i.bytes)) = some (some (.int .i64 0), 1, 8) := by kernel_rfl
theorem pack_small {b : List (List UInt8)} (h : SmB b) : packR b = (pack b, 0) ∧ 5 ≤ (pack b).length ∧ (pack b).length ≤ 30 := by
  obtain ⟨h1, h2, h3⟩ := h
  have h0 : 0 < b.length := List.length_pos_iff.2 h1
  refine ⟨?_, ?_, ?_⟩
  · unfold packR okB
    rw [decide_eq_true (show 1 ≤ b.length by omega), decide_eq_true (show b.length ≤ 60 by omega), List.all_eq_true.2 (fun r hr => (recB_ok r).2 ⟨(h3 r hr).1, by have := (h3 r hr).2; omega⟩)]
    rfl
  · match b, h0, h3 with
    | r :: t, _, h3 =>
      have := (h3 r (by simp)).1
      unfold pack
      simp only [pkT, List.length_append, frm_len]
      omega
  · have key : ∀ (l : List (List UInt8)) n i, (∀ r ∈ l, r.length ≤ 6) → (pkT n i l).length ≤ l.length * 10 := by
      intro l
      induction l with
      | nil => intros; simp [pkT]
      | cons r t ih =>
        intro n i h
        have h4 := h r (by simp)
        have h5 := ih n (i + 1) (fun x hx => h x (by simp [hx]))
        simp only [pkT, List.length_append, frm_len, List.length_cons, Nat.add_mul]
        omega
    have := key b b.length 0 (fun r hr => (h3 r hr).2)
    unfold pack; omega
theorem packs_small (bs : List (List (List UInt8))) (h : ∀ b ∈ bs, SmB b) : (packs bs).length ≤ bs.length * 30 := by
  induction bs with
  | nil => simp [packs]
  | cons b t ih =>
    have h1 := ih fun x hx => h x (by simp [hx])
    have h2 := (pack_small (h b (by simp))).2.2
    have e : packs (b :: t) = pack b ++ packs t := by simp [packs]
    rw [e, List.length_append, List.length_cons, Nat.add_mul]
    omega
/-- Where the first k batches end. -/
def endsV (bs : List (List (List UInt8))) (k : Nat) : List Value := (List.range (k + 1)).map fun i => .int .i64 ((packs (bs.take i)).length : Int)
theorem endsV_len (bs : List (List (List UInt8))) (k : Nat) : (endsV bs k).length = k + 1 := by simp [endsV]
theorem endsV_succ (bs : List (List (List UInt8))) (k : Nat) : endsV bs (k + 1) = endsV bs k ++ [.int .i64 ((packs (bs.take (k + 1))).length : Int)] := by
  unfold endsV; rw [List.range_succ, List.map_append]; rfl
theorem endsV_at (bs : List (List (List UInt8))) (k i : Nat) (h : i ≤ k) : (endsV bs k)[i]? = some (.int .i64 ((packs (bs.take i)).length : Int)) := by
  unfold endsV; rw [List.getElem?_map, List.getElem?_range (by omega)]; rfl
def PdR (w : World) (bs : List (List (List UInt8))) (n : Nat) (gk : Nat) (vP vE vi : Value) (wr : World) : Prop :=
  ∃ i : Nat, vi = .int .i64 i ∧ i ≤ n ∧ gk = n - i ∧ Own wr w.heap.size vP (packs (bs.take i)) ∧ wr.ownsRow w.heap.size 3 1 vE (i + 1) (endsV bs i) ∧ Below w.heap.size w wr
set_option maxRecDepth 100000 in
set_option maxHeartbeats 2000000 in
theorem packed_any (bs : List (List (List UInt8))) (v : Value) (m B : Nat) (w : World) (hbs : SmBs m bs) (hm : m ≤ 100) (h : In3 w (lowB B) bs v) (hB : B ≤ w.heap.size) :
    Calls Try.prog 17 #[v] w fun e w' => ∃ A c A2 c2, e = .returned (.tuple #[.slice A (packs bs).length c, .slice A2 (bs.length + 1) c2, .bool true]) ∧
      Own w' w.heap.size (.slice A (packs bs).length c) (packs bs) ∧ w'.ownsRow w.heap.size 3 1 (.slice A2 (bs.length + 1) c2) (bs.length + 1) (endsV bs bs.length) ∧ Below w.heap.size w w' := by
  obtain ⟨A0, c0, cs0, rfl, _, _, hh, ha⟩ := h
  obtain ⟨hbm, hbs⟩ := hbs
  obtain ⟨n, hn⟩ : ∃ n, bs.length = n := ⟨_, rfl⟩
  rw [hn] at hh hbm ⊢
  have Hn := Lib.hid hn
  have Hbs := Lib.hid hbs
  have Hh := Lib.hid hh
  have Ha := Lib.hid ha
  have Hps := Lib.hid (fun i => packs_small (bs.take i) (fun b hb => hbs b (List.mem_of_mem_take hb)))
  obtain ⟨i0, hi0, hz0, hz1, hz2⟩ := info_parts info_u8
  obtain ⟨i1, hi1, hy0, hy1, hy2⟩ := info_parts info_wint
  clear hn hbs hh ha
  go_enter Try.func17, Try.ntmps17
  go_wp2
  go_loopg [5, 6, 7] n (PdR w bs n)
  case atStart =>
    refine ⟨0, rfl, by omega, by omega, ?_, ?_, (Below.refl _ _).alloc (Nat.le_refl _) _⟩
    · simp [packs]; exact Own.nil _ _
    · refine ⟨by simp [endsV], .inr ⟨w.heap.size, 1, _, rfl, Nat.le_refl _, Blk.new w _ _, by omega, by unfold maxLen; omega, by simp, by simp [endsV, packs]⟩⟩
  case round =>
    obtain ⟨i, rfl, hi, hgi, hP, hE, hbe⟩ := hrel
    obtain ⟨AP, cP, rfl, _⟩ := own_form hP
    obtain ⟨AE, cE, rfl, _⟩ := own_form hE
    obtain ⟨L, hL⟩ : ∃ L, (packs (bs.take i)).length = L := ⟨_, rfl⟩
    have hL2 : L ≤ 3000 := by have := Hps.out i; rw [List.length_take] at this; have := Hn.out; omega
    unfold Own at hP
    rw [hL] at hP ⊢
    have HL := Lib.hid hL
    have Hgi := Lib.hid hgi
    have HP := Lib.hid hP
    have HE := Lib.hid hE
    have Hbe := Lib.hid hbe
    have hsz := hbe.size
    clear hgi hP hE hbe hL
    by_cases hin : i < n
    · have hin' : (i : Int) < (n : Int) := by omega
      have hh2 : HoldsS wr (lowB B) 1 A0 n cs0 := Hh.out.kept fun p hp => Hbe.out.cell (Nat.lt_of_lt_of_le hp hB)
      have ha2 : Ats (In2 wr (lowB B)) bs cs0 := stays2.ats Ha.out (fun p hp => Hbe.out.cell (Nat.lt_of_lt_of_le hp hB)) (fun _ h => h)
      obtain ⟨b0, off, u, rfl, hbb, hc1, A1, c1, cs1, rfl, hcc1, hA1, hh1, ha1⟩ := InL.at_ hh2 ha2 hin Hn.out.symm
      have hil : i < bs.length := by have := Hn.out; omega
      have hsm := Hbs.out bs[i] (List.getElem_mem hil)
      obtain ⟨hp1, hp2, hp3⟩ := pack_small hsm
      have Hsucc := Lib.hid (show packs (bs.take (i + 1)) = packs (bs.take i) ++ pack bs[i] by rw [List.take_succ_eq_append_getElem hil, packs_snoc])
      have HC := pack_any A1 bs[i].length c1 B bs[i] cs1 wr hh1 ha1 rfl (Nat.le_trans hB hsz) (by have := hsm.2.1; omega) (fun r hr => by have := (hsm.2.2 r hr).2; omega)
      rw [hp1] at HC
      generalize pack bs[i] = pb at *
      obtain ⟨q, hq⟩ : ∃ q, pb.length = q := ⟨_, rfl⟩
      rw [hq] at hp2 hp3
      have Hq := Lib.hid hq
      have HC' := Lib.hid HC
      have hbl : bs[i].length ≤ 3 := hsm.2.1
      clear hq HC hh2 ha2 hh1 ha1 hsm hp1
      generalize bs[i].length = bl at *
      go_wp2_with fail
      refine HC'.out.mono ?_
      rintro e w1 ⟨v1, rfl, ho1, hb1⟩
      obtain ⟨A3, c3, rfl, hA3⟩ := own_form ho1
      have hh3 : Holds w1 w1.heap.size 1 A3 q (pb.map bv) := by have := Holds.own ho1; rwa [Hq.out] at this
      rw [Hq.out]
      have Hh3 := Lib.hid hh3
      have HP1 := Lib.hid (wl_below HP.out hb1)
      have HE1 := Lib.hid (wl_below HE.out hb1)
      have Hb1 := Lib.hid (Hbe.out.trans (hb1.mono hsz))
      have hs1 := Hb1.out.size
      have hA3' : A3 = none → c3 = 0 := fun h => (hA3 h).2
      have hlen1 : L + q ≤ 1048576 := by omega
      have hlen2 : i + 1 + 1 ≤ 1048576 := by omega
      clear ho1 hb1 hh3 hA3 HC' HP HE Hbe
      go_wp2_with (first
        | (at_builtin; refine wpList_append_all w1 (by rfl) _ _ 23 (by rfl) w.heap.size 5 i0 _ 1 1 Try.underlying23 hi0 hz0 hz1 hz2 rfl (by decide) _ _ _ (by rfl) HP1.out w1.heap.size A3 q c3 _ (by rfl) hA3' Hh3.out (bv_one _) hlen1 (by decide) hs1 ?_; clear Hh3; intro v4 w4 ho4 hg4 _; obtain ⟨A4, c4, rfl, _⟩ := own_form ho4; have HP4 := Lib.hid ho4; have HE4 := Lib.hid (World.ownsRow.kept HE1.out hg4 (wl_rows HE1.out HP1.out (by decide))); have Hb4 := Lib.hid (Hb1.out.grown hg4 hs1 (fun k hk => (HP1.out.lt k hk).1)); have hs4 := Hb4.out.size; clear ho4 hg4 HP1 HE1)
        | (at_builtin; refine wpList_append1 w4 (by rfl) _ _ 34 (by rfl) w.heap.size 3 i1 _ 8 Try.underlying34 hi1 hy0 hy1 hy2 rfl _ _ _ (by rfl) HE4.out (.int .i64 ((L + q : Nat) : Int)) (by rfl) rfl hlen2 (by decide) hs4 ?_; intro v5 w5 ho5 hg5 _; have HE5 := Lib.hid ho5; have HP5 := Lib.hid (World.ownsRow.kept HP4.out hg5 (wl_rows HP4.out HE4.out (by decide))); have Hb5 := Lib.hid (Hb4.out.grown hg5 hs4 (fun k hk => (HE4.out.lt k hk).1)); clear ho5 hg5 HP4 HE4))
      go_roundg (n - (i + 1))
      case measure => have := Hgi.out; omega
      case rel =>
        have hl2 : (packs (bs.take (i + 1))).length = L + q := by rw [Hsucc.out, List.length_append, HL.out, Hq.out]
        refine ⟨i + 1, by go_num, by omega, rfl, ?_, ?_, Hb5.out⟩
        · unfold Own
          rw [hl2, Hsucc.out, List.map_append]
          exact HP5.out
        · rw [endsV_succ, hl2]
          exact HE5.out
    · have hin' : i = n := by omega
      subst hin'
      have ht : bs.take i = bs := List.take_of_length_le (by have := Hn.out; omega)
      have HP2 := HP.out
      have HL2 := HL.out
      rw [ht] at HP2 HL2
      go_wp2
      go_ret3
      rw [HL2]
      exact ⟨AP, cP, AE, cE, rfl, by unfold Own; rw [HL2]; exact HP2, HE.out, Hbe.out⟩
end Go.Proofs.Ytbdbcffnjibjoaa
