/- ref.BaseBytes: what the call returns. -/
import Derived.Test.YtbdbcffnjibjoaaGreatDoorBaseRef
import Derived.Test.YtbdbcffnjibjoaaGreatDoorBunE
import Derived.Test.YtbdbcffnjibjoaaGreatDoorBaseDec
namespace Go.Proofs.YtbdbcffnjibjoaaGreatDoor
set_option linter.unusedVariables false
set_option linter.unusedSimpArgs false
set_option maxRecDepth 100000
open Go.RowKit
attribute [local go_sem high] fold_digits run_index_digits

theorem b64info_int : (Tryz.prog.info? 3).map (fun i => (i.zero, i.size, i.bytes)) = some (some (.int .i64 0), 1, 8) := by kernel_rfl
/-- A number as a value. -/
def iv (n : Nat) : Value := .int .i64 (n : Int)

def Rb1 (w : World) (s : List UInt8) (gk : Nat) (v i : Value) (wr : World) : Prop :=
  ∃ (k : Nat) (ds : List Nat), i = .int .i64 k ∧ k ≤ s.length ∧ gk = s.length - k ∧ ds.length = k ∧ (∀ d ∈ ds, d < 64) ∧ ds.map dgt = s.take k ∧
    wr.ownsRow w.heap.size 3 1 v (6 * k) ((bitsOf ds).map iv) ∧ Below w.heap.size w wr
def Rb2 (c : UInt8) (w : World) (gk : Nat) (k j : Value) (wr : World) : Prop :=
  ∃ (jn q : Nat), j = .int .i64 jn ∧ jn ≤ 64 ∧ gk = 64 - jn ∧ k = .int .i64 (fnd c jn) ∧ wr = w.drewN q
def Rb3 (w : World) (pre : List Nat) (d : Nat) (gk : Nat) (v j : Value) (wr : World) : Prop :=
  ∃ (jn : Nat), j = .int .i64 ((jn : Int) - 1) ∧ jn ≤ 6 ∧ gk = jn ∧ wr.ownsRow w.heap.size 3 1 v (pre.length + (6 - jn)) ((pre ++ (bits6 d).take (6 - jn)).map iv) ∧ Below w.heap.size w wr

def Rb4 (w : World) (bb : List Nat) (gk : Nat) (v i : Value) (wr : World) : Prop :=
  ∃ (q : Nat) (outs : List Nat), i = .int .i64 ((8 * q : Nat) : Int) ∧ 8 * q ≤ bb.length ∧ gk = bb.length - 8 * q ∧ outs.length = q ∧
    wr.ownsRow w.heap.size 5 1 v q ((outs.map UInt8.ofNat).map bv) ∧ Below w.heap.size w wr ∧ outs ++ chunk8 (bb.drop (8 * q)) = chunk8 bb
def Rb5 (y : List Nat) (w : World) (gk : Nat) (n i : Value) (wr : World) : Prop :=
  ∃ t : Nat, i = .int .i64 t ∧ t ≤ 8 ∧ gk = 8 - t ∧ n = .int .i64 (val8 (y.take t)) ∧ w = wr
def Rb6 (w : World) (out : List UInt8) (gk : Nat) (ag i : Value) (wr : World) : Prop :=
  ∃ (q : Nat) (a : List UInt8), i = .int .i64 ((300 * q : Nat) : Int) ∧ 300 * q ≤ out.length + 299 ∧ gk = out.length + 300 - 300 * q ∧ ag = str a ∧ a = enc (out.take (300 * q)) ∧ Below w.heap.size w wr

theorem bit_at (d q : Nat) (hq : q < 6) : (bits6 d).take (6 - q) = (bits6 d).take (6 - (q + 1)) ++ [d / 2 ^ q % 2] := by
  match q, hq with
  | 0, _ => simp [bits6]
  | 1, _ => simp [bits6]
  | 2, _ => simp [bits6]
  | 3, _ => simp [bits6]
  | 4, _ => simp [bits6]
  | 5, _ => simp [bits6]

/-- What ref.BaseBytes hands back: the bytes whose encoding is s, or ErrForm. -/
def RefBytesed (w : World) (s : List UInt8) (e : Ending) (w' : World) : Prop :=
  Below w.heap.size w w' ∧ ((dec 0 0 s = none ∧ e = .returned (.tuple #[.slice none 0 0, .int .i64 4])) ∨
    ∃ l A c, dec 0 0 s = some l ∧ e = .returned (.tuple #[.slice A l.length c, .int .i64 0]) ∧ Holds w' w'.heap.size 1 A l.length (l.map bv) ∧ l.length ≤ s.length)

end Go.Proofs.YtbdbcffnjibjoaaGreatDoor
