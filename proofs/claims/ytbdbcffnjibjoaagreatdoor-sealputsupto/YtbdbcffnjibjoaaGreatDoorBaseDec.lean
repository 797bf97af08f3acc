/- base.decode and base.Bytes: what each call returns. -/
import Derived.Test.YtbdbcffnjibjoaaGreatDoorBaseEnc
import Derived.Test.YtbdbcffnjibjoaaGreatDoorBunE
namespace Go.Proofs.YtbdbcffnjibjoaaGreatDoor
set_option linter.unusedVariables false
set_option linter.unusedSimpArgs false
set_option maxRecDepth 100000
open Go.RowKit
attribute [local go_sem high] fold_digits run_index_digits

theorem run_idx (c : Int) (w : World) : (callFunc 102 #[.string digits64, .int .u8 c]).run Tryz.prog w = .ok (.value (.int .i64 (firstIdx digits64 c.toNat.toUInt8))) w := by
  rw [run_callFunc_extern (e := Extern.BytealgIndexByte.indexByte) Tryz.func102 (by kernel_rfl) (by kernel_rfl) (by kernel_rfl) (by kernel_rfl), run_indexByte_string]
  rfl
/-- The place of a digit, or -1. -/
def b64place (c : UInt8) : Int := firstIdx digits64 c
theorem b64place_some (c : UInt8) (d : Nat) (h : dval c = some d) : b64place c = d := by unfold b64place; rw [firstIdx_digits, h]
theorem b64place_none (c : UInt8) (h : dval c = none) : b64place c = -1 := by unfold b64place; rw [firstIdx_digits, h]
theorem b64idx_any (c : UInt8) (w : World) :
    Calls Tryz.prog 88 #[.string digits64, .int .u8 (c.toNat : Int)] w fun e w' => e = .returned (.int .i64 (b64place c)) ∧ w = w' := by
  have hx : ∀ W, (callFunc 102 #[.string digits64, .int .u8 (c.toNat : Int)]).run Tryz.prog W = .ok (.value (.int .i64 (b64place c))) W := by
    intro W
    rw [run_idx]
    simp [b64place]
  go_enter Tryz.func88, Tryz.ntmps88
  go_wp2
  go_ret
  exact ⟨rfl, rfl⟩

def DecRel (w : World) (s : List UInt8) (gk : Nat) (b h n i : Value) (wr : World) : Prop :=
  ∃ (k held m : Nat) (bs : List UInt8), i = .int .i64 k ∧ k ≤ s.length ∧ gk = s.length - k ∧ h = .int .i64 held ∧ n = .int .i64 m ∧ (m = 0 ∨ m = 2 ∨ m = 4 ∨ m = 6) ∧ held < 2 ^ m ∧
    wr.ownsRow w.heap.size 5 1 b bs.length (bs.map bv) ∧ Below w.heap.size w wr ∧ (dec held m (s.drop k)).map (bs ++ ·) = dec 0 0 s ∧ bs.length ≤ k

/-- What decode hands back. -/
def Decoded (w : World) (s : List UInt8) (e : Ending) (w' : World) : Prop :=
  Below w.heap.size w w' ∧ ((dec 0 0 s = none ∧ e = .returned (.tuple #[.slice none 0 0, .bool false])) ∨
    ∃ l A c, dec 0 0 s = some l ∧ e = .returned (.tuple #[.slice A l.length c, .bool true]) ∧ w'.ownsRow w.heap.size 5 1 (.slice A l.length c) l.length (l.map bv) ∧ l.length ≤ s.length)

theorem u8_of (I : Int) (m : Nat) (h : I = m) (_hm : m < 256) : Value.int .u8 I = bv (UInt8.ofNat m) := by
  subst h; simp [bv, UInt8.toNat_ofNat', Nat.mod_eq_of_lt _hm]

/-- What base.Bytes hands back: the bytes whose encoding is s, or ErrForm. -/
def Bytesed (w : World) (s : List UInt8) (e : Ending) (w' : World) : Prop :=
  Below w.heap.size w w' ∧ ((dec 0 0 s = none ∧ e = .returned (.tuple #[.slice none 0 0, .int .i64 4])) ∨
    ∃ l A c, dec 0 0 s = some l ∧ e = .returned (.tuple #[.slice A l.length c, .int .i64 0]) ∧ w'.ownsRow w.heap.size 5 1 (.slice A l.length c) l.length (l.map bv) ∧ l.length ≤ s.length)
end Go.Proofs.YtbdbcffnjibjoaaGreatDoor
