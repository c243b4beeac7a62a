/-
  Messages: what a kind bears, as the program and the document tell it; what answers a kind, and its name.
-/
import Derived.Test.YtleapcbkkggecaaEq
import Derived.Test.YtleapcbkkggecaaLw
import Derived.Test.YtleapcbkkggecaaSel
import Derived.OwnWalk
namespace Go.Proofs.Ytleapcbkkggecaa
open Go.ChangeShapes Go.WideShapes Go.ChangeAt Go.RowKit

/-- what a kind bears -/
inductive Ld where
  | no
  | nm (a b : Nat)
  | bl (a b : Nat)
  deriving DecidableEq
def ldOf (k : Int) : Ld :=
  if k = 1 then .nm 0 0 else if k = 2 ∨ k = 5 ∨ k = 7 ∨ k = 10 then .nm 1 1 else if k = 11 then .nm 2 2
  else if k = 3 ∨ k = 4 then .nm 0 32 else if k = 8 ∨ k = 9 then .bl 1 1 else if k = 6 then .bl 0 16 else .no
def spV (a b : Nat) : Value := .agg #[.int .i64 a, .int .i64 b]
def Ld.V : Ld → Value
  | .no => .nilIface
  | .nm a b => .iface 59 (spV a b)
  | .bl a b => .iface 62 (spV a b)
/-- the document's three numbers -/
def Ld.bears : Ld → Int × Int × Int
  | .no => (0, 0, -1)
  | .nm a b => (a, b, if a ≠ b then 2 else if b = 0 then 0 else 1)
  | .bl a b => (a, b, if a ≠ b then 4 else 3)

theorem kinds (k : Int) : k = 1 ∨ k = 2 ∨ k = 3 ∨ k = 4 ∨ k = 5 ∨ k = 6 ∨ k = 7 ∨ k = 8 ∨ k = 9 ∨ k = 10 ∨ k = 11 ∨ (k ≠ 1 ∧ k ≠ 2 ∧ k ≠ 3 ∧ k ≠ 4 ∧ k ≠ 5 ∧ k ≠ 6 ∧ k ≠ 7 ∧ k ≠ 8 ∧ k ≠ 9 ∧ k ≠ 10 ∧ k ≠ 11) := by omega
theorem beq_false {a b : Int} (h : a ≠ b) : (a == b) = false := by simpa using h
theorem ld_no {k : Int} (h : k ≠ 1 ∧ k ≠ 2 ∧ k ≠ 3 ∧ k ≠ 4 ∧ k ≠ 5 ∧ k ≠ 6 ∧ k ≠ 7 ∧ k ≠ 8 ∧ k ≠ 9 ∧ k ≠ 10 ∧ k ≠ 11) : ldOf k = .no := by
  obtain ⟨h1, h2, h3, h4, h5, h6, h7, h8, h9, h10, h11⟩ := h
  simp [ldOf, *]

set_option maxHeartbeats 1000000 in
theorem loadOf_any (k : Int) (w : World) : Calls Try.prog 31 #[.int .i64 k] w fun e w' => e = .returned (ldOf k).V ∧ w = w' := by
  rcases kinds k with rfl | rfl | rfl | rfl | rfl | rfl | rfl | rfl | rfl | rfl | rfl | h
  all_goals
    first
      | (rw [ld_no h]; obtain ⟨h1, h2, h3, h4, h5, h6, h7, h8, h9, h10, h11⟩ := h; have e1 := beq_false h1; have e2 := beq_false h2; have e3 := beq_false h3; have e4 := beq_false h4; have e5 := beq_false h5; have e6 := beq_false h6; have e7 := beq_false h7; have e8 := beq_false h8; have e9 := beq_false h9; have e10 := beq_false h10; have e11 := beq_false h11)
      | skip
    go_enter Try.func31, Try.ntmps31
    go_wp2
    go_ret
    exact ⟨rfl, rfl⟩

set_option maxHeartbeats 1000000 in
theorem bears_any (k : Int) (w : World) : Calls Try.prog 23 #[.int .i64 k] w fun e w' => e = .returned (.tuple #[.int .i64 (ldOf k).bears.1, .int .i64 (ldOf k).bears.2.1, .int .i64 (ldOf k).bears.2.2]) ∧ w = w' := by
  rcases kinds k with rfl | rfl | rfl | rfl | rfl | rfl | rfl | rfl | rfl | rfl | rfl | h
  all_goals
    first
      | (rw [ld_no h]; obtain ⟨h1, h2, h3, h4, h5, h6, h7, h8, h9, h10, h11⟩ := h; have e1 := beq_false h1; have e2 := beq_false h2; have e3 := beq_false h3; have e4 := beq_false h4; have e5 := beq_false h5; have e6 := beq_false h6; have e7 := beq_false h7; have e8 := beq_false h8; have e9 := beq_false h9; have e10 := beq_false h10; have e11 := beq_false h11)
      | skip
    go_enter Try.func23, Try.ntmps23
    go_wp2
    go_ret3
    exact ⟨rfl, rfl⟩

/-- what answers a kind -/
def replyOf (k : Int) : Int := if k = 1 ∨ k = 3 ∨ k = 5 ∨ k = 7 then k + 1 else if k = 9 ∨ k = 10 then 11 else 0
/-- a kind's name -/
def nameOf (k : Int) : ByteArray :=
  if k = 1 then ⟨#[103, 101, 116, 95, 102, 114, 111, 110, 116, 105, 101, 114]⟩
  else if k = 2 then ⟨#[102, 114, 111, 110, 116, 105, 101, 114]⟩
  else if k = 3 then ⟨#[103, 101, 116, 95, 97, 99, 99, 101, 112, 116, 101, 100]⟩
  else if k = 4 then ⟨#[97, 99, 99, 101, 112, 116, 101, 100]⟩
  else if k = 5 then ⟨#[103, 101, 116, 95, 97, 110, 99, 101, 115, 116, 111, 114, 115]⟩
  else if k = 6 then ⟨#[97, 110, 99, 101, 115, 116, 111, 114, 115]⟩
  else if k = 7 then ⟨#[103, 101, 116]⟩
  else if k = 8 then ⟨#[112, 117, 116]⟩
  else if k = 9 then ⟨#[112, 117, 115, 104, 95, 113, 117, 101, 114, 121]⟩
  else if k = 10 then ⟨#[112, 117, 108, 108, 95, 113, 117, 101, 114, 121]⟩
  else if k = 11 then ⟨#[99, 104, 105, 116, 115]⟩
  else ⟨#[]⟩
end Go.Proofs.Ytleapcbkkggecaa
