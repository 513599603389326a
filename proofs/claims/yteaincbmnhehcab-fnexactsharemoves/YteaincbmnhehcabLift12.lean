/- The operations in use are tame: places, maps, texts, lists. -/
import Derived.Test.YteaincbmnhehcabLift11
namespace Go.Proofs.Yteaincbmnhehcab
open Go
section
variable {Q P : Program} {S : Nat → Prop}

theorem tm_partAt (hst : Stubbed Q P) {a : Addr} {c b : Nat} : Tm Q P S (partAt a c b) := tmb (tm_byteOf hst) fun _ => tmb (tm_byteOf hst) fun _ => tm_pure
theorem tm_fieldPlace (hst : Stubbed Q P) {a : Addr} {f : Field} : Tm Q P S (fieldPlace a f) := by
  refine tmb (tm_sizeOf hst) fun n => ?_
  split
  · exact tm_partAt hst
  · exact tm_pure
theorem tm_fieldAt (hst : Stubbed Q P) {s : TypeId} {x : Value} {f : Nat} : Tm Q P S (Instr.fieldAt s x f) := by
  refine tmb (tm_underlying hst) fun d => ?_
  cases d
  case struct fs =>
    dsimp only
    split
    · exact tmb tm_sureAddr fun _ => tmb (tm_fieldPlace hst) fun _ => tm_pure
    · exact tm_stuck
  all_goals exact tm_stuck
theorem tm_indexAt (hst : Stubbed Q P) {t : TypeId} {x i : Value} : Tm Q P S (Instr.indexAt t x i) := by
  have rest : ∀ (k : IntKind) (i : Int) (z : Option Addr × Nat × TypeId) (b : Bool), Tm Q P S (match z.1 with
      | some a => if 0 ≤ i ∧ i < z.2.1 then do pure (.pointer (some (a.add (i.toNat * (← sizeOf z.2.2))))) else if b = true then unsupported (.noEntry "op/indexAddr.an index out of range at an array of length 0 or 1 (ledger 616)") else boundsPanic k i z.2.1 .index
      | none => boundsPanic k i 0 .index : Sem Value) := fun k i z b => by
    split
    · split
      · exact tmb (tm_sizeOf hst) fun _ => tm_pure
      · split
        · exact trivial
        · exact tm_bounds hst
    · exact tm_bounds hst
  unfold Instr.indexAt
  refine tmb tm_asIntOf fun ki => tmb (tm_underlying hst) fun d => ?_
  have two : ∀ z : Option Addr × Nat × TypeId, Tm Q P S (do
      let d ← underlying t
      match z.1 with
      | some a => if 0 ≤ ki.2 ∧ ki.2 < z.2.1 then do pure (.pointer (some (a.add (ki.2.toNat * (← sizeOf z.2.2))))) else if (decide (z.2.1 ≤ 1) && (match d with | .array .. => true | _ => false)) = true then unsupported (.noEntry "op/indexAddr.an index out of range at an array of length 0 or 1 (ledger 616)") else boundsPanic ki.1 ki.2 z.2.1 .index
      | none => boundsPanic ki.1 ki.2 0 .index : Sem Value) := fun z => tmb (tm_underlying hst) fun d => rest _ _ _ _
  cases d
  case array len e => exact tmb tm_sureAddr fun a => two (some a, len, e)
  case slice e =>
    cases x
    case slice b len c => exact two (b, len, e)
    all_goals exact tm_stuck
  all_goals exact tm_stuck
theorem tm_index (hst : Stubbed Q P) {t : TypeId} {x i : Value} : Tm Q P S (Instr.index t x i) := by
  unfold Instr.index
  refine tmb tm_asIntOf fun ki => tmb (tm_underlying hst) fun d => ?_
  cases d
  case array len e =>
    cases x
    case agg cs =>
      dsimp only
      split
      · exact tmb (tm_sizeOf hst) fun _ => tm_part hst
      · exact tm_bounds hst
    all_goals exact tm_stuck
  case string =>
    cases x
    case string s =>
      dsimp only
      split <;> first | exact tm_pure | exact tm_bounds hst
    all_goals exact tm_stuck
  all_goals (cases x <;> exact tm_stuck)
theorem tm_extract {x : Value} {i : Nat} : Tm Q P S (Instr.extract x i) := by
  unfold Instr.extract
  split
  · split
    · exact tm_pure
    · exact tm_stuck
  · exact tm_stuck

/-! ### maps whose keys are numbers or texts -/
def okMap (p : Program) (t : TypeId) : Bool := match p.underlying t with
  | some (.map k _) => basic p k
  | _ => false
theorem tm_checkKey (hst : Stubbed Q P) {b : Bool} {n : Nat} {t : TypeId} {x : Value} (hb : basic P t = true) : Tm Q P S (Instr.checkKey b (n + 1) t x) := by
  unfold Instr.checkKey
  refine tb (t_underlying hst fun d hd => ?_)
  rcases basic_cases hb with h | ⟨k, h⟩ | h
  all_goals
    rw [h] at hd
    obtain rfl := Option.some.inj hd
    exact tm_pure
theorem tm_findAsking (hst : Stubbed Q P) {t : TypeId} {x : Value} (hb : basic P t = true) : ∀ (es : List MapEntry) (i : Nat), Tm Q P S (Instr.findAsking t x es i)
  | [], _ => tm_pure
  | e :: es, i => by
    refine tmb (tm_equal hst hb) fun b => ?_
    cases b
    · exact tm_findAsking hst hb es (i + 1)
    · exact tm_pure
theorem tm_findKey (hst : Stubbed Q P) {t : TypeId} {x : Value} {es : List MapEntry} (hb : basic P t = true) : Tm Q P S (Instr.findKey t x es) := by
  refine tmb (tm_underlying hst) fun d => ?_
  split
  · exact tm_pure
  · exact tm_findAsking hst hb _ _
theorem tm_theMap {r : Nat} {m : String} : Tm Q P S (do
    let .map es _ ← getObj r | stuck m
    pure es : Sem (Array MapEntry)) := by
  refine t_getObj (fun o => ?_) (fun o => ?_)
  · cases o <;> exact trivial
  · cases o <;> rfl
theorem okMap_cases {t : TypeId} (h : okMap P t = true) : ∃ k e, P.underlying t = some (.map k e) ∧ basic P k = true := by
  unfold okMap at h
  split at h
  · exact ⟨_, _, ‹_›, h⟩
  · cases h
theorem tm_lookup (hst : Stubbed Q P) {t : TypeId} {x i : Value} {ok : Bool} (hm : okMap P t = true) : Tm Q P S (Instr.lookup t x i ok) := by
  obtain ⟨k, e, hu, hb⟩ := okMap_cases hm
  unfold Instr.lookup
  refine tb (t_underlying hst fun d hd => ?_)
  obtain rfl : d = .map k e := by rw [hu] at hd; exact (Option.some.inj hd).symm
  have rest : ∀ es : Array MapEntry, Tm Q P S (do
      Instr.checkKey es.isEmpty 10000 k i
      let (v, o) ← match ← Instr.findKey k i es.toList with
        | some (_, v) => pure (v, true)
        | none => do pure (← zeroValue e, false)
      pure (if ok then .tuple #[v, .bool o] else v)) := fun es => by
    refine tmb (tm_checkKey (n := 9999) hst hb) fun _ => tmb (tm_findKey hst hb) fun r => ?_
    cases r with
    | none => exact tmb (tm_zeroValue hst) fun _ => tm_pure
    | some r => exact tm_pure
  cases x
  case map r =>
    cases r with
    | none => exact rest _
    | some r =>
      dsimp only
      refine t_getObj (fun o => ?_) (fun o => ?_)
      · cases o <;> first | exact rest _ | exact tm_stuck
      · cases o <;> rfl
  all_goals exact tm_stuck
theorem tm_keyThatStays {x y : Value} : Tm Q P S (Instr.keyThatStays x y) := by
  unfold Instr.keyThatStays
  split
  · exact tm_pure
  · exact tmb tm_choose fun _ => tm_pure
theorem tm_mapUpdate (hst : Stubbed Q P) {t : TypeId} {m k x : Value} (hm : okMap P t = true) : Tm Q P S (Instr.mapUpdate t m k x) := by
  obtain ⟨kt, e, hu, hb⟩ := okMap_cases hm
  unfold Instr.mapUpdate
  refine tb (t_underlying hst fun d hd => ?_)
  obtain rfl : d = .map kt e := by rw [hu] at hd; exact (Option.some.inj hd).symm
  cases m
  case map r =>
    cases r with
    | none => exact tm_panic hst
    | some r =>
      dsimp only
      refine t_getObj (fun o => ?_) (fun o => ?_)
      · cases o <;> first | exact tm_stuck | skip
        refine tmb (tm_checkKey (n := 9999) hst hb) fun _ => tmb (tm_findKey hst hb) fun z => ?_
        cases z with
        | none => exact t_setObj rfl rfl trivial
        | some z => exact tmb tm_keyThatStays fun _ => t_setObj rfl rfl trivial
      · cases o <;> rfl
  all_goals exact tm_stuck

/-! ### ranges over texts and maps -/
theorem tm_range (hst : Stubbed Q P) {t : TypeId} {x : Value} : Tm Q P S (Instr.range t x) := by
  unfold Instr.range
  refine tmb (tm_underlying hst) fun d => ?_
  have rest : ∀ o : Obj, veil o = o → Tm Q P S (do pure (Value.pointer (some ⟨← newObj o, 0, none⟩)) : Sem Value) := fun o ho => tmb (t_new ho fun _ => trivial) fun _ => tm_pure
  cases d
  case string =>
    cases x <;> first | exact rest _ rfl | exact tm_stuck
  case map k e =>
    cases x
    case map r =>
      cases r with
      | none => exact rest _ rfl
      | some r =>
        dsimp only
        refine t_getObj (fun o => ?_) (fun o => ?_)
        · cases o <;> first | exact rest _ rfl | exact tm_stuck
        · cases o <;> rfl
    all_goals exact tm_stuck
  all_goals (cases x <;> exact tm_stuck)
theorem tm_next {it : Value} {b : Bool} {t : TypeId} : Tm Q P S (Instr.next it b t) := by
  unfold Instr.next
  split
  · refine t_getObj (fun o => ?_) (fun o => ?_)
    · cases o
      case stringIter s pos =>
        cases b
        · exact tm_stuck
        · dsimp only
          split
          · exact tmb (t_setObj rfl rfl trivial) fun _ => tm_pure
          · exact tm_pure
      case mapIter m since sn last =>
        cases b
        · cases m with
          | none => exact tm_pure
          | some m =>
            dsimp only
            refine t_getObj (fun o => ?_) (fun o => ?_)
            · cases o <;> first | exact tm_stuck | skip
              dsimp only
              split
              · exact trivial
              · refine tmb tm_choose fun n => ?_
                split
                · exact tmb (t_setObj rfl rfl trivial) fun _ => tm_pure
                · exact tm_pure
                · exact tm_stuck
            · cases o <;> rfl
        · cases m <;> exact tm_stuck
      all_goals (cases b <;> exact tm_stuck)
    · cases o <;> rfl
  · exact tm_stuck
end
end Go.Proofs.Yteaincbmnhehcab
