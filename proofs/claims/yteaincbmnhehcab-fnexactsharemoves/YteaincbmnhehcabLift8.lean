/- The operations that yield values are tame: numbers, texts, addresses. -/
import Derived.Test.YteaincbmnhehcabLift7
namespace Go.Proofs.Yteaincbmnhehcab
open Go
section
variable {Q P : Program} {S : Nat → Prop}

/-- It is tame, whatever it yields. -/
def Tm {α : Type} (Q P : Program) (S : Nat → Prop) (s : Sem α) : Prop := Tame Q P S (fun _ => False) (fun _ => True) s

theorem tmb {α β : Type} {f : α → Sem β} {s : Sem α} (h : Tm Q P S s) (hf : ∀ a, Tm Q P S (f a)) : Tm Q P S (s >>= f) := tb' h fun a _ => hf a
theorem tm_pure {α : Type} {a : α} : Tm Q P S (pure a) := trivial
theorem tm_stuck {α : Type} {m : String} : Tm Q P S (stuck m : Sem α) := trivial
theorem tm_choose {q : Question} : Tm Q P S (choose q) := fun _ => trivial
theorem tm_asBool {x : Value} : Tm Q P S (asBool x) := t_asBool fun _ => trivial
theorem tm_panic {α : Type} (hst : Stubbed Q P) {e : RuntimeError} : Tm Q P S (runtimePanic e : Sem α) := t_runtimePanic hst

theorem tm_floatArith {op : BinOp} {k : FloatKind} {x y : Nat} : Tm Q P S (Op.floatArith op k x y) := by
  unfold Op.floatArith
  cases op
  all_goals refine tmb (by first | exact tm_pure | exact tm_stuck) fun r => ?_
  all_goals cases r with
    | some _ => exact tm_pure
    | none => exact tmb tm_choose fun _ => tm_pure
theorem tm_floatCmp {op : BinOp} {k : FloatKind} {x y : Nat} : Tm Q P S (Op.floatCmp op k x y) := by
  unfold Op.floatCmp
  cases op <;> first | exact tm_pure | exact tm_stuck
theorem tm_floatToFloat {s d : FloatKind} {b : Nat} : Tm Q P S (Conv.floatToFloat s b d) := by
  unfold Conv.floatToFloat
  repeat' (first | with_reducible exact tm_pure | with_reducible exact tm_stuck | with_reducible exact tm_choose | with_reducible refine tmb tm_choose fun _ => ?_ | dsimp only | split | trivial)
theorem tm_floatToInt {s : FloatKind} {d : IntKind} {b : Nat} : Tm Q P S (Conv.floatToInt s b d) := by
  unfold Conv.floatToInt
  repeat' (first | with_reducible exact tm_pure | with_reducible exact tm_stuck | with_reducible exact tm_choose | with_reducible refine tmb tm_choose fun _ => ?_ | dsimp only | split | trivial)
theorem tm_cArith {op : BinOp} {k : FloatKind} {x y : Nat} : Tm Q P S (Op.Complex.arith op k x y) := by
  unfold Op.Complex.arith
  refine tmb tm_floatArith fun r => ?_
  cases r <;> first | exact tm_pure | exact tm_stuck
theorem tm_cCmp {op : BinOp} {k : FloatKind} {x y : Nat} : Tm Q P S (Op.Complex.cmp op k x y) := tmb tm_floatCmp fun _ => tm_asBool
theorem tm_cConv {s d : FloatKind} {x : Nat} : Tm Q P S (Op.Complex.conv s x d) := by
  unfold Op.Complex.conv
  split
  · exact tm_pure
  · refine tmb tm_floatToFloat fun r => ?_
    cases r <;> first | exact tm_pure | exact tm_stuck
theorem tm_cAdd {x y : Nat} : Tm Q P S (Op.Complex.add x y) := tm_cArith
theorem tm_cSub {x y : Nat} : Tm Q P S (Op.Complex.sub x y) := tm_cArith
theorem tm_cMul {x y : Nat} : Tm Q P S (Op.Complex.mul x y) := tm_cArith
theorem tm_cQuo {x y : Nat} : Tm Q P S (Op.Complex.quo x y) := tm_cArith
theorem tm_product {a b c d : Nat} : Tm Q P S (Op.Complex.product a b c d) := by
  unfold Op.Complex.product
  repeat' (first | with_reducible exact tm_pure | with_reducible exact tm_cMul | with_reducible exact tm_cAdd | with_reducible exact tm_cSub | with_reducible refine tmb ?_ fun _ => ?_ | dsimp only)
theorem tm_corrected {s a b c d : Nat} : Tm Q P S (Op.Complex.corrected s a b c d) := by
  unfold Op.Complex.corrected
  repeat' (first | with_reducible exact tm_pure | with_reducible exact tm_cMul | with_reducible exact tm_cAdd | with_reducible exact tm_cSub | with_reducible refine tmb ?_ fun _ => ?_ | dsimp only)
theorem tm_quotient {a b c d : Nat} : Tm Q P S (Op.Complex.quotient a b c d) := by
  unfold Op.Complex.quotient
  repeat' (first | with_reducible exact tm_pure | with_reducible exact tm_cMul | with_reducible exact tm_cAdd | with_reducible exact tm_cSub | with_reducible exact tm_cQuo | with_reducible exact tm_cCmp | with_reducible exact tm_corrected | with_reducible refine tmb ?_ fun _ => ?_ | dsimp only | split)
theorem tm_complexOp {op : BinOp} {k : FloatKind} {a b c d : Nat} : Tm Q P S (Op.complexOp op k a b c d) := by
  unfold Op.complexOp
  cases op
  all_goals repeat' (first | with_reducible exact tm_pure | with_reducible exact tm_stuck | with_reducible exact tm_cArith | with_reducible exact tm_cCmp | with_reducible exact tm_cConv | with_reducible exact tm_product | with_reducible exact tm_quotient | with_reducible refine tmb ?_ fun _ => ?_ | dsimp only | split)
theorem tm_intArith {op : BinOp} {k : IntKind} {a b : Int} : Tm Q P S (Op.intArith op k a b) := by
  unfold Op.intArith
  cases op <;> first | exact tm_pure | exact tm_stuck
theorem tm_intDiv (hst : Stubbed Q P) {op : BinOp} {k : IntKind} {a b : Int} : Tm Q P S (Op.intDiv op k a b) := by
  unfold Op.intDiv
  split
  · exact tm_panic hst
  · cases op <;> first | exact tm_pure | exact tm_stuck
theorem tm_intBits {op : BinOp} {k : IntKind} {a b : Int} : Tm Q P S (Op.intBits op k a b) := by
  unfold Op.intBits
  cases op <;> first | exact tm_pure | exact tm_stuck
theorem tm_intCmp {op : BinOp} {a b : Int} : Tm Q P S (Op.intCmp op a b) := by
  unfold Op.intCmp
  cases op <;> first | exact tm_pure | exact tm_stuck
theorem tm_shift (hst : Stubbed Q P) {op : BinOp} {k k' : IntKind} {a b : Int} : Tm Q P S (Op.shift op k a k' b) := by
  unfold Op.shift
  split
  · exact tm_panic hst
  · cases op <;> first | exact tm_pure | exact tm_stuck
theorem tm_stringOp {op : BinOp} {a b : ByteArray} : Tm Q P S (Op.stringOp op a b) := by
  unfold Op.stringOp
  cases op
  all_goals first | exact tm_pure | exact tm_stuck | (dsimp only; split; (exact trivial); (exact tm_pure))
theorem tm_unary {op : UnOp} {x : Value} : Tm Q P S (Op.unary op x) := by
  unfold Op.unary
  split <;> first | exact tm_pure | exact tm_stuck | exact tm_intArith | exact tm_intBits | exact trivial
end
end Go.Proofs.Yteaincbmnhehcab
