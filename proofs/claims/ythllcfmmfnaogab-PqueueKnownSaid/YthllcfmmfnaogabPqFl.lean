/- The three numbers with a point that the law uses, and 0. -/
import Derived.Test.YthllcfmmfnaogabPqMem
import Derived.Test.YthllcfmmfnaogabProg
namespace Go.Proofs.Ythllcfmmfnaogab
open Go Go.RowKit

@[go_sem] theorem run_store_float {P : Program} {w : World} {a : Addr} {m : Mode} (k : FloatKind) (n : Nat) : (store a (.float k n) m).run P w = stored P w a (.float k n) m := run_store P w a _ m rfl

inductive Fl where
  | m | z | q | h

/-- Their bits. -/
def fB : Fl → Nat
  | .m => 13826050856027422720
  | .z => 0
  | .q => 4598175219545276416
  | .h => 4602678819172646912

abbrev flV (x : Fl) : Value := .float .f64 (fB x)

def rkF : Fl → Nat
  | .m => 0
  | .z => 1
  | .q => 2
  | .h => 3

def ltF (x y : Fl) : Bool := decide (rkF x < rkF y)

theorem ordF : KOrd ltF := ⟨fun a => by simp [ltF], fun a b c h1 h2 => by simp [ltF] at *; omega, fun a b h1 h2 => by
  simp [ltF] at *
  cases a <;> cases b <;> first | rfl | (simp [rkF] at h1 h2)⟩

theorem lssF (x y : Fl) (w : World) : (binOp .lss 33 (.float .f64 (fB x)) (.float .f64 (fB y))).run Try.prog w = .ok (.bool (ltF x y)) w := by
  cases x <;> cases y <;> kernel_rfl
theorem gtrF (x y : Fl) (w : World) : (binOp .gtr 33 (.float .f64 (fB x)) (.float .f64 (fB y))).run Try.prog w = .ok (.bool (ltF y x)) w := by
  cases x <;> cases y <;> kernel_rfl
theorem neqF (x : Fl) (w : World) : (binOp .neq 33 (.float .f64 (fB x)) (.float .f64 (fB x))).run Try.prog w = .ok (.bool false) w := by
  cases x <;> kernel_rfl
theorem eqgF (x y : Fl) (p q : Operand) (w : World) : (eqGuard .neq 33 p q (.float .f64 (fB x)) (.float .f64 (fB y))).run Try.prog w = .ok () w := by
  cases x <;> cases y <;> kernel_rfl
theorem eqgF2 (x y : Fl) (p q : Operand) (w : World) : (eqGuard .eql 33 p q (.float .f64 (fB x)) (.float .f64 (fB y))).run Try.prog w = .ok () w := by
  cases x <;> cases y <;> kernel_rfl
end Go.Proofs.Ythllcfmmfnaogab
