/- The operations in use are tame. -/
import Derived.Test.YteaincbmnhehcabLift9
namespace Go.Proofs.Yteaincbmnhehcab
open Go
section
variable {Q P : Program} {S : Nat → Prop}

theorem tm_movedNumber (hst : Stubbed Q P) {t : TypeId} {x y : Value} : Tm Q P S (movedNumber t x y) := by
  unfold movedNumber
  refine tmb (tm_underlying hst) fun d => ?_
  dsimp only
  split
  · exact trivial
  simp only [Bool.false_eq_true, if_false]
  cases x
  case pointer a =>
    cases a with
    | none => exact tm_unsafeAdd hst
    | some n =>
      refine tmb tm_behindNumber fun z => ?_
      refine tmb (tm_unsafeAdd hst) fun v => ?_
      split
      · exact tm_asNumber
      · exact tm_pure
  all_goals exact tm_unsafeAdd hst
theorem tm_movedPointer (hst : Stubbed Q P) {t : TypeId} {x y : Value} : Tm Q P S (movedPointer t x y) := by
  unfold movedPointer
  split
  · refine tmb tm_numberAt fun d => ?_
    dsimp only
    split
    · exact trivial
    · exact tm_unsafeAdd hst
  · exact tm_unsafeAdd hst
theorem tm_twoPlaces (hst : Stubbed Q P) {a b : Addr} : Tm Q P S (Op.twoPlaces a b) := by
  have hst' := hst
  obtain ⟨F, rfl⟩ := hst.ex
  unfold Op.twoPlaces
  refine t_prog rfl ?_
  split
  · exact trivial
  · exact tmb (tm_byteOf hst') fun _ => tmb (tm_byteOf hst') fun _ => tm_pure
theorem tm_addrSub (hst : Stubbed Q P) {k : IntKind} {a b : Addr} : Tm Q P S (Op.addrSub k a b) := tmb (tm_twoPlaces hst) fun _ => tm_pure
theorem tm_addrCmp (hst : Stubbed Q P) {op : BinOp} {a b : Addr} : Tm Q P S (Op.addrCmp op a b) := by
  refine tmb (tm_twoPlaces hst) fun _ => ?_
  cases op <;> first | exact tm_pure | exact trivial
theorem tm_addrMod (hst : Stubbed Q P) {k : IntKind} {a : Addr} {n : Int} : Tm Q P S (Op.addrMod k a n) := by
  unfold Op.addrMod
  refine t_shape (fun x => ?_) (.inr fun _ _ => rfl)
  cases x with
  | none => exact trivial
  | some x =>
    refine tmb (tm_typeInfo hst) fun i => ?_
    dsimp only
    split
    · exact trivial
    · exact tmb (tm_byteOf hst) fun _ => tm_pure

/-- Types at which operations compare. -/
def basic (p : Program) (t : TypeId) : Bool := match p.underlying t with
  | some .bool | some (.int _) | some .string => true
  | _ => false
theorem basic_cases {t : TypeId} (h : basic P t = true) : P.underlying t = some .bool ∨ (∃ k, P.underlying t = some (.int k)) ∨ P.underlying t = some .string := by
  unfold basic at h
  split at h
  · exact .inl ‹_›
  · exact .inr (.inl ⟨_, ‹_›⟩)
  · exact .inr (.inr ‹_›)
  · cases h

theorem tm_equalIn (hst : Stubbed Q P) {n : Nat} {t : TypeId} {x y : Value} (hb : basic P t = true) : Tm Q P S (Op.equalIn (n + 1) t x y) := by
  have hst' := hst
  obtain ⟨F, rfl⟩ := hst.ex
  unfold Op.equalIn
  refine tb (t_underlying hst' fun d hd => ?_)
  rcases basic_cases hb with h | ⟨k, h⟩ | h
  · obtain rfl : d = .bool := by rw [h] at hd; exact (Option.some.inj hd).symm
    cases x <;> first | exact tm_stuck | (cases y <;> first | exact tm_stuck | exact tm_pure)
  · obtain rfl : d = .int k := by rw [h] at hd; exact (Option.some.inj hd).symm
    have two : ∀ a b : Addr, Tm { P with funcs := F } P S (do
        let (a, b) := ((← behindNumber a).1, (← behindNumber b).1)
        if a.block == b.block && a.block < (← program).globals.size then return (← byteOf a) == (← byteOf b)
        let .named "sync.copyChecker" _ := (← typeInfo t).desc | unsupported .addressObserved
        if a == b then pure true else unsupported .addressObserved) := by
      intro a b
      refine tmb tm_behindNumber fun u => ?_
      refine tmb tm_behindNumber fun u' => ?_
      refine t_prog rfl ?_
      split
      · exact tmb (tm_byteOf hst') fun _ => tmb (tm_byteOf hst') fun _ => tm_pure
      · refine tmb (tm_typeInfo hst') fun i => ?_
        split
        · split
          · exact tm_pure
          · exact trivial
        · exact trivial
    cases x with
    | int k1 a =>
      cases y with
      | int k2 b => dsimp only; split <;> first | exact tm_pure | exact tm_stuck
      | pointer p =>
        cases p with
        | none => exact trivial
        | some _ =>
          dsimp only
          cases a with
          | ofNat m => cases m <;> exact trivial
          | negSucc m => exact trivial
      | _ => exact tm_stuck
    | pointer p =>
      cases p with
      | none => cases y <;> exact trivial
      | some a =>
        cases y with
        | int k2 b =>
          dsimp only
          cases b with
          | ofNat m => cases m <;> exact trivial
          | negSucc m => exact trivial
        | pointer p' =>
          cases p' with
          | none => exact trivial
          | some b => exact two a b
        | _ => exact trivial
    | _ => cases y <;> first | exact tm_stuck | exact trivial
  · obtain rfl : d = .string := by rw [h] at hd; exact (Option.some.inj hd).symm
    cases x <;> first | exact tm_stuck | (cases y <;> first | exact tm_stuck | exact tm_pure)
theorem tm_equal (hst : Stubbed Q P) {t : TypeId} {x y : Value} (hb : basic P t = true) : Tm Q P S (Op.equal t x y) := tm_equalIn (n := 9999) hst hb
end
end Go.Proofs.Yteaincbmnhehcab
