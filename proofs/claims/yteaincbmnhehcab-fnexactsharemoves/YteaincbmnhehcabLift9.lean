/- Addresses that are looked at, comparisons, sums: tame. -/
import Derived.Test.YteaincbmnhehcabLift8
namespace Go.Proofs.Yteaincbmnhehcab
open Go
section
variable {Q P : Program} {S : Nat → Prop}

theorem tm_any {α : Type} {Z A : α → Prop} {s : Sem α} (h : Tm Q P S s) (hA : ∀ a, A a) : Tame Q P S Z A s := t_any h hA

theorem tm_numberAt {r : Nat} : Tm Q P S (numberAt r) := by
  unfold numberAt
  refine t_shape (fun x => ?_) (.inr fun _ _ => rfl)
  cases x with
  | some _ => exact trivial
  | none =>
    simp only [Option.isSome_none, Bool.false_eq_true, if_false]
    refine t_getObj (fun o => ?_) (fun o => ?_)
    · cases o <;> exact trivial
    · cases o <;> rfl
theorem t_viewAt {β : Type} {Z A : β → Prop} {r : Nat} {f : Option (Addr × TypeId) → Sem β} (h : ∀ o, Tame Q P S Z A (f o)) (hs : ∀ x y, f (some x) = f (some y)) : Tame Q P S Z A (viewAt r >>= f) := by
  unfold viewAt
  simp only [bind_assoc]
  refine t_shape (fun x => ?_) (.inr fun _ _ => rfl)
  cases x with
  | some _ => exact h none
  | none =>
    simp only [Option.isSome_none, Bool.false_eq_true, if_false, bind_assoc]
    refine t_getObj (fun o => ?_) (fun o => ?_)
    · cases o <;> exact h _
    · cases o <;> first | rfl | exact hs _ _
theorem tm_behindNumber {a : Addr} : Tm Q P S (behindNumber a) := tmb tm_numberAt fun _ => tm_pure
theorem tm_asNumber {a : Addr} {l : Bool} : Tm Q P S (asNumber a l) := tmb (t_new rfl fun _ => trivial) fun _ => tm_pure
theorem tm_asInt {x : Value} : Tm Q P S (asInt x) := t_asInt fun _ => trivial
theorem tm_underlying (hst : Stubbed Q P) {t : TypeId} : Tm Q P S (underlying t) := t_underlying hst fun _ _ => trivial
theorem tm_typeInfo (hst : Stubbed Q P) {t : TypeId} : Tm Q P S (typeInfo t) := t_typeInfo hst fun _ _ => trivial
theorem tm_unsupported {α : Type} {u : Unsupported} (h : ∀ g, u ≠ .initOrder g := by intro _ h; cases h) : Tm Q P S (unsupported u : Sem α) := by
  cases u <;> first | exact trivial | exact absurd rfl (h _)

theorem under_same {F : Array Func} (t : TypeId) : Program.underlying { P with funcs := F } t = P.underlying t := rfl
theorem cells_same {F : Array Func} (t : TypeId) : Program.cellsOf { P with funcs := F } t = P.cellsOf t := rfl
theorem bytes_same {F : Array Func} (t : TypeId) : Program.bytesOf { P with funcs := F } t = P.bytesOf t := rfl
theorem byteOfCell_same {F : Array Func} : ∀ (d : Nat) (t : TypeId) (o : Nat), byteOfCell { P with funcs := F } d t o = byteOfCell P d t o
  | 0, _, _ => rfl
  | d + 1, t, o => by
    simp only [byteOfCell, under_same, cells_same, bytes_same, byteOfCell_same d]
    rfl
theorem cellOfByte_same {F : Array Func} : ∀ (d : Nat) (t : TypeId) (o : Nat), cellOfByte { P with funcs := F } d t o = cellOfByte P d t o
  | 0, _, _ => rfl
  | d + 1, t, o => by
    simp only [cellOfByte, under_same, cells_same, bytes_same, cellOfByte_same d]
    rfl
theorem cellAtBytes_same {F : Array Func} (d : Nat) (e : TypeId) (c o : Nat) (b : Int) : cellAtBytes { P with funcs := F } d e c o b = cellAtBytes P d e c o b := by
  simp only [cellAtBytes, cells_same, bytes_same, byteOfCell_same, cellOfByte_same]
  rfl
theorem depth_same {F : Array Func} : Program.depth { P with funcs := F } = P.depth := rfl

theorem tm_byteOf (hst : Stubbed Q P) {a : Addr} : Tm Q P S (byteOf a) := by
  obtain ⟨F, rfl⟩ := hst.ex
  unfold byteOf
  split
  · exact tm_pure
  refine t_prog ?_ ?_
  · simp only [cells_same, bytes_same, byteOfCell_same, depth_same]
  refine tmb (t_noView trivial) fun _ => ?_
  refine t_shape (fun x => ?_) (.inr fun _ _ => rfl)
  cases x with
  | none => exact trivial
  | some x =>
    dsimp only
    split
    · exact tm_pure
    · split
      · exact tm_pure
      · exact tm_stuck
theorem cellAt_none (p : Program) (d : Nat) (e : TypeId) (o : Nat) (b : Int) (s : Nat) : cellAtBytes p d e (0 / s) o b = none := by
  unfold cellAtBytes
  simp only [Nat.zero_div, Nat.zero_mul]
  repeat' (first | rfl | split | (simp only [bind, Option.bind]))
  all_goals first | rfl | (simp_all; omega)
theorem tm_unsafeAdd (hst : Stubbed Q P) {ts : Array TypeId} {t : TypeId} {x y : Value} : Tm Q P S (Builtin.unsafeAdd_ ts t #[x, y]) := by
  obtain ⟨F, rfl⟩ := hst.ex
  unfold Builtin.unsafeAdd_
  cases x
  case pointer ptr =>
    refine tmb tm_asInt fun n => ?_
    dsimp only
    by_cases h0 : n = 0
    · simp only [h0, if_true]
      cases ptr with
      | none => exact trivial
      | some a =>
        refine t_viewAt (fun o => ?_) (fun _ _ => rfl)
        cases o <;> exact trivial
    · simp only [h0, if_false]
      by_cases h1 : n < 0
      · simp only [h1, if_true]
        exact trivial
      · simp only [h1, if_false]
        cases ptr with
        | none => exact trivial
        | some a =>
          refine t_shape (fun x => ?_) (.inl fun t => ?_)
          · cases x with
            | none => exact trivial
            | some x =>
              refine t_prog ?_ ?_
              · simp only [cells_same, cellAtBytes_same, depth_same]
              · split
                · exact tm_pure
                · exact trivial
          · show Doomed _ (program >>= _)
            simp only [cellAt_none]
            exact trivial
  all_goals exact tm_stuck
end
end Go.Proofs.Yteaincbmnhehcab
