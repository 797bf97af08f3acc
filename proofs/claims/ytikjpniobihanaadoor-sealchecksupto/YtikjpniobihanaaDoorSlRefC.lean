/- SealCheck of the reference: what the call returns. -/
import Derived.Test.YtikjpniobihanaaDoorSlRefP
import Derived.Test.YtikjpniobihanaaDoorSlChk
import Derived.Test.YtikjpniobihanaaDoorBunF
import Derived.Test.YtikjpniobihanaaDoorBaseRefB
import Derived.Deep.RegionHeld3
import Derived.Deep.RegionHeld
import Derived.Deep.DeepFit
import Derived.IntWalk
namespace Go.Proofs.YtikjpniobihanaaDoor
set_option linter.unusedVariables false
set_option linter.unusedSimpArgs false
open Go.RowKit
attribute [local go_sem high] str_mk
/-- A part, or what stands for one that is not there. -/
def orZ (o : Option JV) : JV := match o with | some p => p | none => zeroJ
theorem orZ_po {o : Option JV} (h : ∀ p, o = some p → Fine p) : PO (orZ o) := by
  cases o with
  | none => exact po_zero
  | some p => exact po_fine (h p rfl)
theorem getAt_zero (k : List UInt8) : getAt [k] zeroJ = none := getAt_miss (by simp)
theorem getAt_cons (k : List UInt8) (r : List (List UInt8)) (v : JV) : getAt (k :: r) v = match getAt [k] v with | some p => getAt r p | none => none := by
  cases v with
  | mk kd n t ks ps =>
    rw [getAt, getAt]
    by_cases hm : k ∈ ks
    · rw [if_pos hm, if_pos hm]
      cases ps[place ks k]? with
      | none => rfl
      | some p => simp [getAt]
    · rw [if_neg hm, if_neg hm]
theorem getAt_three (a b c : List UInt8) (v : JV) : getAt [a, b, c] v = getAt [c] (orZ (getAt [b] (orZ (getAt [a] v)))) := by
  rw [getAt_cons a [b, c] v]
  cases h1 : getAt [a] v with
  | none => simp [orZ, getAt_zero]
  | some p =>
    simp only [orZ]
    rw [getAt_cons b [c] p]
    cases h2 : getAt [b] p with
    | none => simp [getAt_zero]
    | some q => rfl
theorem zero_in (W : World) (B : Nat) : VIn W B zeroJ [.int .i64 0, .int .i64 0, str [], .slice none 0 0, .slice none 0 0] := by
  unfold zeroJ VIn
  exact ⟨none, 0, none, 0, [], rfl, by omega, by omega, by simp, by simp, by simp, by simp, by simp, by simp, Holds.empty, Holds.empty, by unfold PIn; rfl⟩
/-- partOf, with what is returned as one value. -/
def PartZ (B : Nat) (o : Option JV) (w : World) (e : Ending) (w' : World) : Prop :=
  ∃ k2 n2 t2 Ak2 nk2 ck2 Ap2 np2 cp2, e = .returned (.tuple #[.agg #[.int .i64 k2, .int .i64 n2, str t2, .slice Ak2 nk2 ck2, .slice Ap2 np2 cp2], .bool o.isSome]) ∧
    VIn w' B (orZ o) [.int .i64 k2, .int .i64 n2, str t2, .slice Ak2 nk2 ck2, .slice Ap2 np2 cp2] ∧ Below w.heap.size w w'
theorem partZ_any (v : JV) (cs : List Value) (key : List UInt8) (w : World) (B : Nat) (hB : B ≤ w.heap.size) (hv : VIn w B v cs) (hpo : PO v) :
    Calls Tryd.prog 31 #[.agg cs.toArray, str key] w (PartZ B (getAt [key] v) w) := by
  refine (partOf_any v cs key w B hB hv hpo).mono ?_
  rintro e w' ⟨hb, ⟨h, rfl⟩ | ⟨p, cs', h, rfl, hv'⟩⟩
  · rw [h]; exact ⟨0, 0, [], none, 0, 0, none, 0, 0, rfl, zero_in _ _, hb⟩
  · rw [h]
    obtain ⟨k, n, t, Ak, nk, ck, Ap, np, cp, rfl⟩ := hv'.form
    exact ⟨k, n, t, Ak, nk, ck, Ap, np, cp, rfl, hv', hb⟩
theorem isSome_zero {o : Option JV} (h : o.isSome = false) (k : List UInt8) : (getAt [k] (orZ o)).isSome = false := by
  cases o with
  | none => simp [orZ, getAt_zero]
  | some p => cases h
theorem orZ_fine {o : Option JV} {k : List UInt8} (h : ∀ p, o = some p → Fine p) : ∀ p, getAt [k] (orZ o) = some p → Fine p := by
  cases o with
  | none => intro p hp; simp [orZ, getAt_zero] at hp
  | some q => intro p hp; exact getAt_fine (h q rfl) hp
theorem chkN_parts {v : JV} {u k : List UInt8} {pub : Int} (hT : tapN v u k = 0) : chkN v u k pub = match getAt [k] (orZ (getAt [u] (orZ (getAt [sigK] v)))) with | some p => foundN v p pub | none => 8 := by
  unfold chkN; rw [if_neg (by simpa using hT), getAt_three]; rfl
set_option maxRecDepth 100000 in
set_option maxHeartbeats 2000000 in
theorem refSealCheck_any (v : JV) (cs : List Value) (u k : List UInt8) (pub : Int) (w : World) (B : Nat) (hB : B ≤ w.heap.size) (hv : VIn w B v cs) (hcnt : count v ≤ 1073741824) (hu : u.length ≤ maxLen) (hk : k.length ≤ maxLen) :
    Calls Tryd.prog 13 #[.agg cs.toArray, str u, str k, .int .i64 pub] w fun e w' => e = .returned (.int .i64 (chkN v u k pub)) ∧ Below w.heap.size w w' := by
  obtain ⟨kd, n, t, Ak, nk, ck, Ap, np, cp, rfl⟩ := hv.form
  have HW := Lib.hid (show Below w.heap.size w (w.alloc (.cells #[.int .i64 kd, .int .i64 n, str t, .slice Ak nk ck, .slice Ap np cp] 25)) from (Below.refl _ _).alloc (Nat.le_refl _) _)
  have H1 := Lib.hid (Blk.new w 25 #[.int .i64 kd, .int .i64 n, str t, .slice Ak nk ck, .slice Ap np cp])
  have HR := Lib.hid (show sTextR v = .tuple #[str (sTextL v), .int .i64 (sTextN v)] from rfl)
  have Hv := Lib.hid (show ∀ W, Below w.heap.size w W → VIn W B v [.int .i64 kd, .int .i64 n, str t, .slice Ak nk ck, .slice Ap np cp] from fun W hW => hv.below (hW.mono hB))
  clear hv
  go_enter Tryd.func13, Tryd.ntmps13
  go_wp2_with fail
  refine (refSealText_any v _ _ B (Nat.le_trans hB HW.out.size) (Hv.out _ HW.out) hcnt).mono ?_
  rintro e w1 ⟨rfl, hb1⟩
  have hw1 : Below w.heap.size w w1 := HW.out.trans (hb1.mono HW.out.size)
  have hx1 := H1.out.below hb1 (by simp)
  rw [HR.out]
  by_cases hN : sTextN v = 0
  · obtain ⟨hck, h7, hL, hLl⟩ := sText_facts hN
    have Hfv := Lib.hid (fine_check hck)
    have Hlen := Lib.hid (check_facts hck).2.2
    rw [hN]
    have HN := Lib.hid hN
    clear hN hck h7 hL hLl
    generalize hLe : sTextL v = L at *
    have HLe := Lib.hid hLe
    clear hLe
    go_wp2_with fail
    refine (sealNames_any u k _ hu hk).mono ?_
    rintro e w2 ⟨rfl, hb2⟩
    have hw2 : Below w.heap.size w w2 := hw1.trans (hb2.mono hw1.size)
    obtain ⟨c0, c1, c2, c3, c4, -, -, -, -, -⟩ := sl_box (hx1.below hb2 hx1.lt)
    cases hnm : nameOk u k
    · have HC := Lib.hid (show chkN v u k pub = 6 by
        have h6 : tapN v u k = 6 := by unfold tapN; rw [if_neg (by simp [HN.out]), if_neg (by simp [hnm])]
        unfold chkN; rw [h6, if_pos (by omega)])
      go_wp2_with fail
      go_ret
      exact ⟨by rw [HC.out]; rfl, hw2⟩
    · have HC := Lib.hid (chkN_parts (pub := pub) (show tapN v u k = 0 by unfold tapN; rw [if_neg (by simp [HN.out]), if_pos hnm]))
      clear HW H1 HR hb1 hb2 hx1 hw1 hnm
      have Hw2 := Lib.hid hw2
      have hB2 : B ≤ w2.heap.size := Nat.le_trans hB hw2.size
      clear hw2
      have F1 := Lib.hid (fun p (h : getAt [sigK] v = some p) => getAt_fine Hfv.out h)
      have F2 := Lib.hid (orZ_fine (k := u) F1.out)
      have F3 := Lib.hid (orZ_fine (k := k) F2.out)
      go_wp2_with fail
      refine (partZ_any v _ sigK w2 B hB2 (Hv.out _ Hw2.out) (po_fine Hfv.out)).mono ?_
      rintro e w3 ⟨k1, n1, t1, Ak1, nk1, ck1, Ap1, np1, cp1, rfl, hv3, hb3⟩
      have hA3 : Below w3.heap.size w3 (w3.alloc (.cells #[.int .i64 k1, .int .i64 n1, str t1, .slice Ak1 nk1 ck1, .slice Ap1 np1 cp1] 25)) := (Below.refl _ _).alloc (Nat.le_refl _) _
      have Hw3 := Lib.hid ((Hw2.out.trans (hb3.mono Hw2.out.size)).trans (hA3.mono (Nat.le_trans Hw2.out.size hb3.size)))
      have hv3a := hv3.below (hA3.mono (Nat.le_trans hB2 hb3.size))
      have hB3 : B ≤ (w3.alloc (.cells #[.int .i64 k1, .int .i64 n1, str t1, .slice Ak1 nk1 ck1, .slice Ap1 np1 cp1] 25)).heap.size := Nat.le_trans hB Hw3.out.size
      have Hi1 := Lib.hid (fun h => isSome_zero (o := getAt [sigK] v) h u)
      clear hA3 hv3 hb3 c0 c1 c2 c3 c4
      generalize hO1 : getAt [sigK] v = o1 at *
      have HO1 := Lib.hid hO1
      clear hO1
      go_wp2_with fail
      refine (partZ_any (orZ o1) _ u _ B hB3 hv3a (orZ_po F1.out)).mono ?_
      rintro e w4 ⟨k2, n2, t2, Ak2, nk2, ck2, Ap2, np2, cp2, rfl, hv4, hb4⟩
      have hA4 : Below w4.heap.size w4 (w4.alloc (.cells #[.int .i64 k2, .int .i64 n2, str t2, .slice Ak2 nk2 ck2, .slice Ap2 np2 cp2] 25)) := (Below.refl _ _).alloc (Nat.le_refl _) _
      have Hw4 := Lib.hid ((Hw3.out.trans (hb4.mono Hw3.out.size)).trans (hA4.mono (Nat.le_trans Hw3.out.size hb4.size)))
      have hv4a := hv4.below (hA4.mono (Nat.le_trans hB3 hb4.size))
      have hB4 : B ≤ (w4.alloc (.cells #[.int .i64 k2, .int .i64 n2, str t2, .slice Ak2 nk2 ck2, .slice Ap2 np2 cp2] 25)).heap.size := Nat.le_trans hB Hw4.out.size
      have Hi2 := Lib.hid (fun h => isSome_zero (o := getAt [u] (orZ o1)) h k)
      clear hA4 hv4 hb4 hv3a hB3
      generalize hO2 : getAt [u] (orZ o1) = o2 at *
      have HO2 := Lib.hid hO2
      clear hO2
      go_wp2_with fail
      refine (partZ_any (orZ o2) _ k _ B hB4 hv4a (orZ_po F2.out)).mono ?_
      rintro e w5 ⟨k3, n3, t3, Ak3, nk3, ck3, Ap3, np3, cp3, rfl, hv5, hb5⟩
      have Hw5 := Lib.hid (Hw4.out.trans (hb5.mono Hw4.out.size))
      have Hk3 := Lib.hid hv5.kind
      have Ht3 := Lib.hid hv5.text_
      clear hv5 hb5 hv4a hB4
      generalize hO3 : getAt [k] (orZ o2) = o3 at *
      cases o3 with
      | none =>
        have HC2 := Lib.hid (show chkN v u k pub = 8 from HC.out)
        have hz3 : (none : Option JV).isSome = false := rfl
        rw [hz3]
        clear HC F1 F2 F3 Hi1 Hi2 HO1 HO2 hO3 hz3 Hk3 Ht3 Hv Hfv Hlen HN HLe
        generalize o1.isSome = b1 at *
        generalize o2.isSome = b2 at *
        cases b1
        · go_wp2_with fail
          go_ret
          exact ⟨by rw [HC2.out]; rfl, Hw5.out.alloc Hw5.out.size _⟩
        cases b2
        · go_wp2_with fail
          go_ret
          exact ⟨by rw [HC2.out]; rfl, Hw5.out.alloc Hw5.out.size _⟩
        · go_wp2_with fail
          go_ret
          exact ⟨by rw [HC2.out]; rfl, Hw5.out.alloc Hw5.out.size _⟩
      | some p =>
        have hs2 : o2.isSome = true := by
          cases h : o2.isSome
          · have := Hi2.out h; simp at this
          · rfl
        have hs1 : o1.isSome = true := by
          cases h : o1.isSome
          · have := Hi1.out h; rw [this] at hs2; cases hs2
          · rfl
        have hz3 : (some p : Option JV).isSome = true := rfl
        rw [hz3, hs1, hs2]
        have HC2 := Lib.hid (show chkN v u k pub = foundN v p pub from HC.out)
        have Hp3 := Lib.hid (show p.kind = k3 from Hk3.out)
        have Hpt := Lib.hid (show p.text = t3 from Ht3.out)
        have Htl := Lib.hid (show p.kind = 5 → p.text.length ≤ 1200 by
          intro h5
          have h0 : getAt [sigK, u, k] v = some p := by rw [getAt_three, HO1.out, HO2.out]; exact hO3
          have h1 := getAt_text Hfv.out h0
          have h2 := Hlen.out
          cases p with
          | mk pk pn pt pks pps =>
            have h5' : pk = 5 := h5
            subst h5'
            have h3 := str_text (n := pn) (t := pt) (ks := pks) (ps := pps)
            show pt.length ≤ 1200
            omega)
        have HF := Lib.hid (show foundN v p pub = if k3 = 5 then (match sigD t3 with | some (r, s) => checkR pub L.length L r s | none => 4) else 8 by
          rw [← HLe.out, ← Hp3.out, ← Hpt.out]; rfl)
        rw [Hp3.out, Hpt.out] at Htl
        clear HC F1 F2 F3 Hi1 Hi2 HO1 HO2 hO3 hz3 Hk3 Ht3 Hv Hfv Hlen HN HLe hs1 hs2 Hp3 Hpt
        by_cases h5 : k3 = 5
        · subst h5
          have HC3 := Lib.hid (show chkN v u k pub = (match sigD t3 with | some (r, s) => checkR pub L.length L r s | none => 4) by have := HF.out; rw [HC2.out]; rwa [if_pos rfl] at this)
          have htl := Htl.out rfl
          clear Htl HF HC2
          go_wp2_with fail
          refine (refBytes_small t3 _ htl).mono ?_
          rintro e w6 ⟨hb6, ⟨hd, rfl⟩ | ⟨l, A, c, hd, rfl, hhl, hll⟩⟩
          · have Hw6 := Lib.hid ((Hw5.out.alloc Hw5.out.size _).trans (hb6.mono (Nat.le_trans Hw5.out.size (by simp))))
            have HC4 := Lib.hid (show chkN v u k pub = 4 by rw [HC3.out, sigD_none hd])
            clear hd HC3
            go_wp2_with fail
            go_ret
            exact ⟨by rw [HC4.out]; rfl, Hw6.out⟩
          · have Hw6 := Lib.hid ((Hw5.out.alloc Hw5.out.size _).trans (hb6.mono (Nat.le_trans Hw5.out.size (by simp))))
            by_cases h4 : l.length = 4
            · obtain ⟨a, b, c', d, rfl⟩ := four_of h4
              have HC4 := Lib.hid (show chkN v u k pub = checkR pub L.length L ((a.toNat * 256 + b.toNat : Nat) : Int) ((c'.toNat * 256 + d.toNat : Nat) : Int) by rw [HC3.out, sigD_four hd])
              obtain ⟨g, off, rfl, hg, hc⟩ := hhl.2 (by simp)
              have x0 : w6.cell? ⟨g, off, none⟩ = some (.int .u8 (a.toNat : Int)) := hc 0 _ rfl
              have x1 : w6.cell? ⟨g, off + 1, none⟩ = some (.int .u8 (b.toNat : Int)) := hc 1 _ rfl
              have x2 : w6.cell? ⟨g, off + 2, none⟩ = some (.int .u8 (c'.toNat : Int)) := hc 2 _ rfl
              have x3 : w6.cell? ⟨g, off + 3, none⟩ = some (.int .u8 (d.toNat : Int)) := hc 3 _ rfl
              obtain ⟨cc, w7, hcv, hhv, hb7⟩ := conv_bytes w6.drew L w6.heap.size rfl
              have y0 := (hb7.cell (p := ⟨g, off, none⟩) hg).trans x0
              have y1 := (hb7.cell (p := ⟨g, off + 1, none⟩) hg).trans x1
              have y2 := (hb7.cell (p := ⟨g, off + 2, none⟩) hg).trans x2
              have y3 := (hb7.cell (p := ⟨g, off + 3, none⟩) hg).trans x3
              have hg7 : g < w7.heap.size := Nat.lt_of_lt_of_le hg hb7.size
              have Hw7 := Lib.hid (Hw6.out.trans (show Below w.heap.size w6 w7 from ((below_drewN (Below.refl _ w6) 1).trans hb7).mono Hw6.out.size))
              have Hhv := Lib.hid hhv
              have la := a.toNat_lt
              have lb := b.toNat_lt
              have lc := c'.toNat_lt
              have ld := d.toNat_lt
              simp only [List.length_cons, List.length_nil]
              clear hc hd HC3 hhl h4 hll hb6 Hw5 Hw6 hb7 hhv hg htl
              generalize a.toNat = xa at *
              generalize b.toNat = xb at *
              generalize c'.toNat = xc at *
              generalize d.toNat = xd at *
              have e5 : IntKind.i64.wrap (xa : Int) = (xa : Int) := IntWalk.i64_in _ (by omega)
              have e6 : IntKind.i64.wrap (xb : Int) = (xb : Int) := IntWalk.i64_in _ (by omega)
              have e7 : IntKind.i64.wrap (xc : Int) = (xc : Int) := IntWalk.i64_in _ (by omega)
              have e8 : IntKind.i64.wrap (xd : Int) = (xd : Int) := IntWalk.i64_in _ (by omega)
              have e1 : IntKind.i64.wrap (256 * (xa : Int)) = 256 * (xa : Int) := IntWalk.i64_in _ (by omega)
              have e2 : IntKind.i64.wrap (256 * (xa : Int) + (xb : Int)) = 256 * (xa : Int) + (xb : Int) := IntWalk.i64_in _ (by omega)
              have e3 : IntKind.i64.wrap (256 * (xc : Int)) = 256 * (xc : Int) := IntWalk.i64_in _ (by omega)
              have e4 : IntKind.i64.wrap (256 * (xc : Int) + (xd : Int)) = 256 * (xc : Int) + (xd : Int) := IntWalk.i64_in _ (by omega)
              have HS := Lib.hid (refCheckS_any pub (some ⟨w6.heap.size, 0, none⟩) L.length cc L (256 * (xa : Int) + xb) (256 * (xc : Int) + xd) w7 Hhv.out)
              have HC5 := Lib.hid (show chkN v u k pub = checkR pub L.length L (256 * (xa : Int) + xb) (256 * (xc : Int) + xd) by
                rw [HC4.out]; congr 1 <;> omega)
              clear HC4
              go_wp2_with fail
              first | (go_region_held (fun w' => w'.cell? ⟨g, off, none⟩ = some (.int .u8 (xa : Int)) ∧ w'.cell? ⟨g, off + 1, none⟩ = some (.int .u8 (xb : Int)) ∧ w'.cell? ⟨g, off + 2, none⟩ = some (.int .u8 (xc : Int)) ∧ w'.cell? ⟨g, off + 3, none⟩ = some (.int .u8 (xd : Int)))
                (first | exact ⟨z0, z1, z2, z3⟩ | exact ⟨y0, y1, y2, y3⟩ | exact ⟨x0, x1, x2, x3⟩)
                (first | (go_at_call 33; go_fit (HS.out); rintro e w8 ⟨rfl, hb8⟩; have z0 := (hb8.cell (p := ⟨g, off, none⟩) hg7).trans y0; have z1 := (hb8.cell (p := ⟨g, off + 1, none⟩) hg7).trans y1; have z2 := (hb8.cell (p := ⟨g, off + 2, none⟩) hg7).trans y2; have z3 := (hb8.cell (p := ⟨g, off + 3, none⟩) hg7).trans y3))) | fail
              all_goals
               go_wp2_with fail
               go_ret
               exact ⟨by rw [HC5.out]; rfl, Hw7.out.trans (hb8.mono Hw7.out.size)⟩
            · have h4b : ((l.length : Int) != 4) = true := by rw [bne_iff_ne]; omega
              have HC4 := Lib.hid (show chkN v u k pub = 4 by rw [HC3.out, sigD_len hd h4])
              clear hd HC3 hhl h4
              go_wp2_with fail
              go_ret
              exact ⟨by rw [HC4.out]; rfl, Hw6.out⟩
        · have h5b : (k3 != 5) = true := by simpa using h5
          have HC3 := Lib.hid (show chkN v u k pub = 8 by have := HF.out; rw [HC2.out]; rwa [if_neg h5] at this)
          clear Htl HF HC2 h5
          go_wp2_with fail
          go_ret
          exact ⟨by rw [HC3.out]; rfl, Hw5.out.alloc Hw5.out.size _⟩
  · have HC := Lib.hid (show chkN v u k pub = sTextN v by unfold chkN tapN; rw [if_pos hN, if_pos hN])
    generalize sTextN v = a at *
    have hab : (a != 0) = true := by simpa using hN
    go_wp2_with fail
    go_ret
    exact ⟨by rw [HC.out]; rfl, hw1⟩
end Go.Proofs.YtikjpniobihanaaDoor
