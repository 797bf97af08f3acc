/- ref.BaseBytes: what the call returns. -/
import Derived.Test.YtikjpniobihanaaDoorBaseRef
import Derived.Test.YtikjpniobihanaaDoorBunE
import Derived.Test.YtikjpniobihanaaDoorBaseDec
namespace Go.Proofs.YtikjpniobihanaaDoor
set_option linter.unusedVariables false
set_option linter.unusedSimpArgs false
set_option maxRecDepth 100000
open Go.RowKit
attribute [local go_sem high] fold_digits run_index_digits

theorem b64info_int : (Tryd.prog.info? 3).map (fun i => (i.zero, i.size, i.bytes)) = some (some (.int .i64 0), 1, 8) := by kernel_rfl
/-- A number as a value. -/
def iv (n : Nat) : Value := .int .i64 (n : Int)

def Rb1 (w : World) (s : List UInt8) (gk : Nat) (v i : Value) (wr : World) : Prop :=
  ∃ (k : Nat) (ds : List Nat), i = .int .i64 k ∧ k ≤ s.length ∧ gk = s.length - k ∧ ds.length = k ∧ (∀ d ∈ ds, d < 64) ∧ ds.map dgt = s.take k ∧
    wr.ownsRow w.heap.size 3 1 v (6 * k) ((bitsOf ds).map iv) ∧ Below w.heap.size w wr
def Rb2 (c : UInt8) (w : World) (gk : Nat) (k j : Value) (wr : World) : Prop :=
  ∃ (jn q : Nat), j = .int .i64 jn ∧ jn ≤ 64 ∧ gk = 64 - jn ∧ k = .int .i64 (fnd c jn) ∧ wr = w.drewN q
def Rb3 (w : World) (pre : List Nat) (d : Nat) (gk : Nat) (v j : Value) (wr : World) : Prop :=
  ∃ (jn : Nat), j = .int .i64 ((jn : Int) - 1) ∧ jn ≤ 6 ∧ gk = jn ∧ wr.ownsRow w.heap.size 3 1 v (pre.length + (6 - jn)) ((pre ++ (bits6 d).take (6 - jn)).map iv) ∧ Below w.heap.size w wr

def Rb4 (w : World) (bb : List Nat) (gk : Nat) (v i : Value) (wr : World) : Prop :=
  ∃ (q : Nat) (outs : List Nat), i = .int .i64 ((8 * q : Nat) : Int) ∧ 8 * q ≤ bb.length ∧ gk = bb.length - 8 * q ∧ outs.length = q ∧
    wr.ownsRow w.heap.size 5 1 v q ((outs.map UInt8.ofNat).map bv) ∧ Below w.heap.size w wr ∧ outs ++ chunk8 (bb.drop (8 * q)) = chunk8 bb
def Rb5 (y : List Nat) (w : World) (gk : Nat) (n i : Value) (wr : World) : Prop :=
  ∃ t : Nat, i = .int .i64 t ∧ t ≤ 8 ∧ gk = 8 - t ∧ n = .int .i64 (val8 (y.take t)) ∧ w = wr
def Rb6 (w : World) (out : List UInt8) (gk : Nat) (ag i : Value) (wr : World) : Prop :=
  ∃ (q : Nat) (a : List UInt8), i = .int .i64 ((300 * q : Nat) : Int) ∧ 300 * q ≤ out.length + 299 ∧ gk = out.length + 300 - 300 * q ∧ ag = str a ∧ a = enc (out.take (300 * q)) ∧ Below w.heap.size w wr

theorem bit_at (d q : Nat) (hq : q < 6) : (bits6 d).take (6 - q) = (bits6 d).take (6 - (q + 1)) ++ [d / 2 ^ q % 2] := by
  match q, hq with
  | 0, _ => simp [bits6]
  | 1, _ => simp [bits6]
  | 2, _ => simp [bits6]
  | 3, _ => simp [bits6]
  | 4, _ => simp [bits6]
  | 5, _ => simp [bits6]

/-- What ref.BaseBytes hands back: the bytes whose encoding is s, or ErrForm. -/
def RefBytesed (w : World) (s : List UInt8) (e : Ending) (w' : World) : Prop :=
  Below w.heap.size w w' ∧ ((dec 0 0 s = none ∧ e = .returned (.tuple #[.slice none 0 0, .int .i64 4])) ∨
    ∃ l A c, dec 0 0 s = some l ∧ e = .returned (.tuple #[.slice A l.length c, .int .i64 0]) ∧ Holds w' w'.heap.size 1 A l.length (l.map bv) ∧ l.length ≤ s.length)

set_option maxHeartbeats 4000000 in
theorem refBytes_small (s : List UInt8) (w : World) (hs : s.length ≤ 1200) : Calls Tryd.prog 32 #[str s] w (RefBytesed w s) := by
  obtain ⟨i0, hi0, hz0, hz1, hz2⟩ := info_parts info_byte
  obtain ⟨i1, hi1, hy0, hy1, hy2⟩ := info_parts b64info_int
  have hd0 : decide (1200 < (s.length : Int)) = false := by simp; omega
  go_enter Tryd.func32, Tryd.ntmps32
  go_wp2
  go_loopg [4, 5] s.length (Rb1 w s)
  case atStart => exact ⟨0, [], rfl, by omega, by omega, rfl, by simp, by simp, World.ownsRow_nil _ _ _ _, Below.refl _ _⟩
  case round =>
    obtain ⟨k, ds, rfl, hk, hgk, hdl, hdv, hds, hown, hbl⟩ := hrel
    have hz : w.heap.size ≤ wr.heap.size := hbl.size
    have Hgk := Lib.hid hgk
    have Hdl := Lib.hid hdl
    have Hds := Lib.hid hds
    have Hdv := Lib.hid hdv
    clear hgk hdl hds hdv
    by_cases hlt : k < s.length
    · have Htk := Lib.hid (show s.take (k + 1) = s.take k ++ [s[k]] from List.take_succ_eq_append_getElem hlt)
      have Hbad := Lib.hid (show dval s[k] = none → dec 0 0 s = none from dec_none_at s 0 0 k hlt)
      have hix := fun W => run_index_str (P := Tryd.prog) W 9 s .i64 k Tryd.underlying9 hlt
      generalize s[k] = c at *
      go_wp2
      go_loopg [6, 7] 64 (Rb2 c wr)
      case atStart => exact ⟨0, 0, rfl, by omega, rfl, by unfold fnd; cases dval c <;> simp, rfl⟩
      case round =>
        obtain ⟨j, q, rfl, hj, hgj, rfl, rfl⟩ := hrel
        have Hgj := Lib.hid hgj
        clear hgj
        by_cases hj64 : j < 64
        · have hj0 : (0 : Int) ≤ (j : Int) := by omega
          have hj1 : (j : Int) < 64 := by omega
          by_cases heq : dgt j = c
          · have Hf := Lib.hid (fnd_hit c j hj64 heq)
            have hv : (dgtV (j : Int) == (c.toNat : Int)) = true := by simp [dgtV, heq]
            generalize fnd c j = fj at *
            go_wp2_with fail
            go_quiet (fail)
            go_wp2
            go_roundg (64 - (j + 1))
            case measure => have := Hgj.out; omega
            case rel => exact ⟨j + 1, _, by go_num, by omega, rfl, by rw [Hf.out], rfl⟩
          · have Hf := Lib.hid (fnd_miss c j heq)
            have hv : (dgtV (j : Int) == (c.toNat : Int)) = false := by
              rw [beq_eq_false_iff_ne]
              intro h
              exact heq (UInt8.toNat_inj.1 (by simp only [dgtV, Int.toNat_natCast] at h; omega))
            generalize fnd c j = fj at *
            go_wp2_with fail
            go_quiet (fail)
            go_wp2
            go_roundg (64 - (j + 1))
            case measure => have := Hgj.out; omega
            case rel => exact ⟨j + 1, _, by go_num, by omega, rfl, by rw [Hf.out], rfl⟩
        · obtain rfl : j = 64 := by omega
          have hbq := below_drewN hbl q
          have hownq : (wr.drewN q).ownsRow w.heap.size 3 1 u4 (6 * k) ((bitsOf ds).map iv) := hown
          clear hbl hown hix
          cases hc : dval c with
          | none =>
            have Hn := Lib.hid (Hbad.out hc)
            rw [fnd_none c hc]
            go_wp2
            go_ret2
            exact ⟨hbq, .inl ⟨Hn.out, rfl⟩⟩
          | some d =>
            obtain ⟨hd64, hdc⟩ := dgt_of_dval c d hc
            have Hdc := Lib.hid hdc
            rw [fnd_some c d hc]
            have Hd64 := Lib.hid hd64
            clear hc hdc
            have hdn : decide ((d : Int) < 0) = false := by simp
            go_wp2
            go_loopg [4, 8] 6 (Rb3 w (bitsOf ds) d)
            case atStart =>
              refine ⟨6, rfl, by omega, rfl, ?_, hbq⟩
              rw [bitsOf_length, Hdl.out]
              simpa using hownq
            case round =>
              clear hownq hbq hz
              obtain ⟨jn, rfl, hjn, hgj3, hown, hbl⟩ := hrel
              have hz : w.heap.size ≤ wr.heap.size := hbl.size
              have Hgj3 := Lib.hid hgj3
              clear hgj3
              by_cases hj0 : 0 < jn
              · obtain ⟨t, rfl⟩ : ∃ t, jn = t + 1 := ⟨jn - 1, by omega⟩
                rw [show (((t + 1 : Nat) : Int) - 1) = (t : Int) from by omega]
                have hcast : (d : Int) / 2 ^ t = ((d / 2 ^ t : Nat) : Int) := by simp
                have hdt : d / 2 ^ t < 64 := Nat.lt_of_le_of_lt (Nat.div_le_self _ _) hd64
                have hand : bits .and .i64 ((d : Int) / 2 ^ t) 1 = ((d / 2 ^ t % 2 : Nat) : Int) := by
                  rw [hcast]; exact and_low (d / 2 ^ t) 1 (by omega) (by omega)
                have Hb := Lib.hid (bit_at d t (by omega))
                clear hcast
                have hlen : (bitsOf ds).length + (6 - (t + 1)) + 1 ≤ 1048576 := by rw [bitsOf_length, Hdl.out]; omega
                generalize d / 2 ^ t % 2 = bt at *
                go_wp2_with (at_builtin
                             refine wpList_append1 wr rfl _ _ _ rfl w.heap.size 3 i1 _ 8 Tryd.underlying36 hi1 hy0 hy1 hy2 rfl _ _ _ (by rfl) hown _ (by rfl) rfl hlen (by decide) hz ?_
                             intro v1 w1 hown1 hg1 _)
                go_roundg t
                case measure => have := Hgj3.out; omega
                case rel =>
                  refine ⟨t, rfl, by omega, rfl, ?_, below_own hbl hg1 hown (Nat.le_refl _) hz⟩
                  rw [Hb.out, show (bitsOf ds).length + (6 - t) = (bitsOf ds).length + (6 - (t + 1)) + 1 from by omega, ← List.append_assoc, List.map_append]
                  exact hown1
              · obtain rfl : jn = 0 := by omega
                go_wp2
                go_roundg (s.length - (k + 1))
                case measure => have := Hgk.out; omega
                case rel =>
                  refine ⟨k + 1, ds ++ [d], by go_num, by omega, rfl, by simp [Hdl.out], ?_, by rw [Htk.out, List.map_append, Hds.out, ← Hdc.out]; rfl, ?_, hbl⟩
                  · intro x hx
                    rcases List.mem_append.1 hx with h | h
                    · exact Hdv.out x h
                    · simp at h; subst h; exact hd64
                  · rw [bitsOf_snoc]
                    have h1 := hown
                    rw [bitsOf_length, Hdl.out] at h1
                    simpa [bits6, Nat.mul_add] using h1
    · obtain rfl : k = s.length := by omega
      obtain ⟨A, c, rfl, hA⟩ := own_form hown
      have hbits := Holds.own hown
      have hcap : 6 * s.length ≤ c ∧ c ≤ maxLen := by
        rcases hown.2 with ⟨h1, h2⟩ | ⟨g, cap, cur, hv, _, _, h3, h4, _⟩
        · injection h1 with _ _ e3
          subst e3
          exact ⟨by omega, by unfold maxLen; omega⟩
        · injection hv with _ _ e3
          subst e3
          exact ⟨h3, h4⟩
      have hblen : (bitsOf ds).length = 6 * s.length := by rw [bitsOf_length, Hdl.out]
      have Hblen := Lib.hid hblen
      have hble : (bitsOf ds).length ≤ 6 * s.length := by omega
      have hbge : 6 * s.length ≤ (bitsOf ds).length := by omega
      have hblt := bitsOf_lt ds
      have Hblt := Lib.hid hblt
      have Hdec := Lib.hid (dec_bits s ds Hdv.out (by rw [Hds.out]; simp) _ rfl)
      clear hown hblen hblt Hdv Hds Hdl Hgk hk
      generalize bitsOf ds = bb at *
      obtain ⟨hcap1, hcap2⟩ := hcap
      have hcap3 : c ≤ 9223372036854775807 := hcap2
      clear hcap2 hlt
      obtain ⟨wa, rfl⟩ : ∃ wa, wa = wr := ⟨_, rfl⟩
      go_wp2
      go_loopg [9, 10] bb.length (Rb4 wa bb)
      case atStart => exact ⟨0, [], rfl, by omega, by omega, rfl, World.ownsRow_nil _ _ _ _, Below.refl _ _, by simp⟩
      case round =>
        obtain ⟨q, outs, rfl, hq, hgq, hol, hown, hbq, hch⟩ := hrel
        have hzq : wa.heap.size ≤ wr.heap.size := hbq.size
        have Hgq := Lib.hid hgq
        have Hol := Lib.hid hol
        have Hch := Lib.hid hch
        clear hgq hol hch
        by_cases h8 : 8 * q + 8 ≤ bb.length
        · have hy : ((bb.drop (8 * q)).take 8).length = 8 := by rw [List.length_take, List.length_drop]; omega
          have Hstep := Lib.hid (chunk8_step (bb.drop (8 * q)) (by rw [List.length_drop]; omega))
          have hcut := hbits.cut (c := c) (lo := 8 * q) (hg := 8 * q + 8) (by omega) (by omega) hcap1
          have hrun := fun W => run_cut_lh (P := Tryd.prog) W 36 3 i1 Tryd.underlying36 hi1 A (6 * s.length) c .i64 .i64 ((8 * q : Nat) : Int) (((8 * q : Nat) : Int) + 8) (8 * q) (8 * q + 8) rfl (by omega) (by omega) (by omega)
          rw [hy1] at hrun
          simp only [Nat.add_sub_cancel_left, Nat.mul_one] at hcut hrun
          rw [← List.map_drop, ← List.map_take] at hcut
          have hylt : ∀ b ∈ (bb.drop (8 * q)).take 8, b < 2 := fun b hb => Hblt.out b (List.mem_of_mem_drop (List.mem_of_mem_take hb))
          have Hylt := Lib.hid hylt
          have Hy := Lib.hid hy
          clear hylt hy
          generalize (bb.drop (8 * q)).take 8 = y at *
          generalize cutAt A c (8 * q) 1 = A8 at *
          generalize c - 8 * q = c8 at *
          have hcq := hcut.below hbq
          have hqq : 8 * q + 8 ≤ 7200 := by omega
          generalize he8 : 8 * q = q8 at *
          have He8 := Lib.hid he8
          clear he8
          have hd8 : decide ((q8 : Int) + 8 ≤ 6 * (s.length : Int)) = true := by simp; omega
          go_wp2
          go_loopg [11, 64] 8 (Rb5 y wr)
          case atStart => exact ⟨0, rfl, by omega, rfl, by simp [val8], rfl⟩
          case round =>
            obtain ⟨t, rfl, ht, hgt, rfl, rfl⟩ := hrel
            have Hgt := Lib.hid hgt
            clear hgt
            have hvl : val8 (y.take t) < 256 := Nat.lt_of_lt_of_le (val8_lt _ fun b hb => Hylt.out b (List.mem_of_mem_take hb)) (show 2 ^ (y.take t).length ≤ 2 ^ 8 from Nat.pow_le_pow_right (by decide) (by rw [List.length_take]; omega))
            by_cases ht8 : t < 8
            · obtain ⟨b, off, u, rfl, _, hu, hcell⟩ := hcq.at1 ht8
              have hty : t < y.length := by have := Hy.out; omega
              have hut : u = .int .i64 (y[t] : Nat) := by
                simp [List.getElem?_eq_getElem hty] at hu
                rw [← hu]; rfl
              subst hut
              have hb2 : y[t] < 2 := Hylt.out _ (List.getElem_mem hty)
              have Hv := Lib.hid (show val8 (y.take (t + 1)) = 2 * val8 (y.take t) + y[t] by rw [List.take_succ_eq_append_getElem hty, val8_snoc])
              clear hu
              generalize val8 (y.take t) = vt at *
              generalize y[t] = yt at *
              go_wp2
              go_roundg (8 - (t + 1))
              case measure => have := Hgt.out; omega
              case rel => exact ⟨t + 1, by go_num, by omega, rfl, by rw [Hv.out]; go_num, rfl⟩
            · obtain rfl : t = 8 := by omega
              have Hyt := Lib.hid (show y.take 8 = y from List.take_of_length_le (by have := Hy.out; omega))
              rw [Hyt.out] at hvl
              rw [Hyt.out]
              have Hu := Lib.hid (u8_of (val8 y : Int) (val8 y) rfl hvl)
              have hvI : ((val8 y : Nat) : Int) ≤ 255 := by omega
              have hlen : q + 1 ≤ 1048576 := by have := He8.out; omega
              generalize val8 y = vy at *
              go_wp2_with (at_builtin
                           refine wpList_append1 wr rfl _ _ _ rfl wa.heap.size 5 i0 _ 1 Tryd.underlying61 hi0 hz0 hz1 hz2 rfl _ _ _ (by rfl) hown _ (by rfl) rfl hlen (by decide) hzq ?_
                           intro v1 w1 hown1 hg1 _
                           rw [Hu.out] at hown1)
              go_roundg (bb.length - (8 * (q + 1)))
              case measure => have := Hgq.out; have := He8.out; omega
              case rel =>
                refine ⟨q + 1, outs ++ [vy], ?_, by have := He8.out; omega, rfl, by simp [Hol.out], by simpa using hown1, below_own hbq hg1 hown (Nat.le_refl _) hzq, ?_⟩
                · have := He8.out
                  rw [show ((8 * (q + 1) : Nat) : Int) = (q8 : Int) + 8 from by omega]
                · rw [← Hch.out, Hstep.out, List.append_assoc, show 8 * (q + 1) = q8 + 8 from by have := He8.out; omega, List.drop_drop]
                  rfl
        · have Hout := Lib.hid (show outs = chunk8 bb by
            have h1 := Hch.out
            rw [chunk8_end (bb.drop (8 * q)) (by rw [List.length_drop]; omega), List.append_nil] at h1
            exact h1)
          have Hdec2 := Lib.hid (show (enc (outs.map UInt8.ofNat) = s → dec 0 0 s = some (outs.map UInt8.ofNat)) ∧ (enc (outs.map UInt8.ofNat) ≠ s → dec 0 0 s = none) by
            rw [Hout.out]; exact Hdec.out)
          obtain ⟨A2, c2, rfl, hA2⟩ := own_form hown
          have hob := Holds.own hown
          have hcap2 : q ≤ c2 ∧ c2 ≤ maxLen := by
            rcases hown.2 with ⟨h1, h2⟩ | ⟨g, cap, cur, hv, _, _, h3, h4, _⟩
            · injection h1 with _ _ e3
              subst e3
              exact ⟨by omega, by unfold maxLen; omega⟩
            · injection hv with _ _ e3
              subst e3
              exact ⟨h3, h4⟩
          obtain ⟨hcap4, hcap5⟩ := hcap2
          have hcap6 : c2 ≤ 9223372036854775807 := hcap5
          have hol : (outs.map UInt8.ofNat).length = q := by rw [List.length_map, Hol.out]
          have Hol2 := Lib.hid hol
          have hob0 := hbl.trans (hbq.mono hbl.size)
          have hq900 : q ≤ 900 := by omega
          have hd8 : decide (((8 * q : Nat) : Int) + 8 ≤ 6 * (s.length : Int)) = false := by simp; omega
          clear hown hcap5 hol Hch Hout Hdec hbits hbq hbl
          generalize outs.map UInt8.ofNat = out at *
          obtain ⟨wb, rfl⟩ : ∃ wb, wb = wr := ⟨_, rfl⟩
          generalize 8 * q = q8 at *
          go_wp2
          go_loopg [14, 15] (out.length + 300) (Rb6 wb out)
          case atStart => exact ⟨0, [], rfl, by omega, by omega, rfl, by simp [enc, b64], Below.refl _ _⟩
          case round =>
            obtain ⟨p, ag, rfl, hp, hgp, rfl, hag, hbp⟩ := hrel
            have Hgp := Lib.hid hgp
            have Hag := Lib.hid hag
            clear hgp hag
            have hol1 : out.length ≤ q := by have := Hol2.out; omega
            have hol2 : q ≤ out.length := by have := Hol2.out; omega
            by_cases hpq : 300 * p < q
            · obtain ⟨hi, hhi⟩ : ∃ hi : Nat, hi = min q (300 * p + 300) := ⟨_, rfl⟩
              have hmin : (if ((300 * p : Nat) : Int) + 300 < (q : Int) then ((300 * p : Nat) : Int) + 300 else (q : Int)) = (hi : Int) := by split <;> omega
              have h1 : 300 * p ≤ hi := by omega
              have h2 : hi ≤ q := by omega
              have h3 : hi - 300 * p ≤ 600 := by omega
              have hpart := (hob.cutBytes (c := c2) (lo := 300 * p) (hg := hi) h1 h2 hcap4).below hbp
              have hrun := fun W => run_cut_lh (P := Tryd.prog) W 61 5 i0 Tryd.underlying61 hi0 A2 q c2 .i64 .i64 ((300 * p : Nat) : Int) (hi : Int) (300 * p) hi rfl rfl h1 (by omega)
              rw [hz1] at hrun
              have Hnx := Lib.hid (show enc (out.take (300 * (p + 1))) = enc (out.take (300 * p)) ++ enc ((out.drop (300 * p)).take (hi - 300 * p)) by
                rw [← enc_append _ _ (by rw [List.length_take]; omega)]
                congr 1
                have e1 : out.take (300 * (p + 1)) = out.take (300 * p + (hi - 300 * p)) := by
                  rcases Nat.lt_or_ge q (300 * p + 300) with h | h
                  · rw [List.take_of_length_le (by omega), List.take_of_length_le (by omega)]
                  · rw [show 300 * (p + 1) = 300 * p + (hi - 300 * p) from by omega]
                rw [e1, List.take_add])
              have hpl : ((out.drop (300 * p)).take (hi - 300 * p)).length ≤ 600 := by rw [List.length_take]; omega
              have hagl : ag.length ≤ 5000 := by rw [Hag.out, enc_length, List.length_take]; omega
              clear hhi
              have h4 : (((300 * p : Nat) : Int)) ≤ 900 := by omega
              generalize (out.drop (300 * p)).take (hi - 300 * p) = y at *
              generalize hi - 300 * p = ny at *
              generalize cutAt A2 c2 (300 * p) 1 = A3 at *
              generalize c2 - 300 * p = c3 at *
              generalize hp3 : 300 * p = p3 at *
              have Hp3 := Lib.hid hp3
              clear hp3
              go_wp2_with fail
              refine (refText_small A3 ny c3 y _ (hpart.wider hbp.size) h3).mono ?_
              rintro e w1 ⟨rfl, hb1⟩
              have hadd := fun W => run_str_add (P := Tryd.prog) W 9 ag (enc y) (by rw [enc_length]; omega)
              go_wp2_with fail
              go_roundg (out.length + 300 - 300 * (p + 1))
              case measure => have := Hgp.out; have := Hp3.out; omega
              case rel =>
                refine ⟨p + 1, ag ++ enc y, ?_, by have := Hp3.out; omega, rfl, rfl, by rw [Hnx.out, Hag.out], hbp.trans (hb1.mono hbp.size)⟩
                rw [show ((300 * (p + 1) : Nat) : Int) = (p3 : Int) + 300 from by have := Hp3.out; omega]
            · have hall : ag = enc out := by rw [Hag.out, List.take_of_length_le (by omega)]
              have hb0p := hob0.trans (hbp.mono hob0.size)
              subst hall
              by_cases hes : enc out = s
              · have Hd := Lib.hid (Hdec2.out.1 hes)
                rw [hes]
                have hlo : out.length ≤ s.length := by rw [← hes, enc_length]; omega
                clear hes
                go_wp2
                go_ret2
                refine ⟨hb0p, .inr ⟨out, A2, c2, Hd.out, by rw [Hol2.out]; rfl, ?_, hlo⟩⟩
                rw [Hol2.out]
                exact (hob.below hbp).wider hbp.size
              · have Hd := Lib.hid (Hdec2.out.2 hes)
                have hne : (enc out == s) = false := by rw [beq_eq_false_iff_ne]; exact hes
                clear hes
                go_wp2
                go_ret2
                exact ⟨hb0p, .inl ⟨Hd.out, rfl⟩⟩

theorem refBytes_big (s : List UInt8) (w : World) (hs : 1200 < s.length) : Calls Tryd.prog 32 #[str s] w fun e w' => e = .returned (.tuple #[.slice none 0 0, .int .i64 1]) ∧ w = w' := by
  go_enter Tryd.func32, Tryd.ntmps32
  go_wp2
  go_ret2
  exact ⟨rfl, rfl⟩
end Go.Proofs.YtikjpniobihanaaDoor
