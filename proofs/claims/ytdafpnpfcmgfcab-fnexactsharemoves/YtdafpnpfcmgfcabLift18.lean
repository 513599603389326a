/- A program with refused bodies, by reckoning. -/
import Derived.Test.YtdafpnpfcmgfcabJB
namespace Go.Proofs.Ytdafpnpfcmgfcab
open Go
inductive StubL : List Func → List Func → Prop
  | nil : StubL [] []
  | same {f : Func} {l m : List Func} : StubL l m → StubL (f :: l) (f :: m)
  | stub {f : Func} {why : String} {l m : List Func} : StubL l m → StubL ({ f with body := some (.refuse why) } :: l) (f :: m)
theorem StubL.get {l m : List Func} (h : StubL l m) : l.length = m.length ∧ ∀ f : Nat, l[f]? = m[f]? ∨ ∃ (g : Func) (why : String), m[f]? = some g ∧ l[f]? = some { g with body := some (.refuse why) } := by
  induction h with
  | nil => exact ⟨rfl, fun _ => .inl rfl⟩
  | same _ ih =>
    refine ⟨by simp [ih.1], fun f => ?_⟩
    cases f with
    | zero => exact .inl rfl
    | succ f => simpa using ih.2 f
  | @stub g why _ _ _ ih =>
    refine ⟨by simp [ih.1], fun f => ?_⟩
    cases f with
    | zero => exact .inr ⟨g, why, rfl, rfl⟩
    | succ f => simpa using ih.2 f
theorem tamed_of {Q P : Program} (ht : Q.toTables = P.toTables) (hs : StubL Q.funcs.toList P.funcs.toList) (hb : Q.funcs.all (fun fn => !fn.body.isNone && !(fn.name == "runtime.NumGoroutine")) = true)
    (hc : Q.funcs.all (fun fn => match fn.body with | some c => okCode P c | none => true) = true) : Tamed Q P := by
  obtain ⟨h1, h2⟩ := hs.get
  refine ⟨⟨?_, by simpa using h1, fun f => ?_⟩, fun f fn hf => ?_, fun f fn c hf hcd => ?_⟩
  · cases Q; cases P
    simp only [Program.mk.injEq] at ht ⊢
    exact ⟨ht, trivial⟩
  · have := h2 f
    simpa using this
  · have := (Array.all_eq_true'.1 hb) fn (Array.mem_of_getElem? hf)
    simp only [Bool.and_eq_true, Bool.not_eq_true'] at this
    exact this
  · have := (Array.all_eq_true'.1 hc) fn (Array.mem_of_getElem? hf)
    rw [hcd] at this
    exact this
section
variable {T : Tables} {F F1 : Array Func} (t : TypeId) (w : World)
theorem same_underlying : (Program.mk T F).underlying t = (Program.mk T F1).underlying t := rfl
theorem same_info : (Program.mk T F).info? t = (Program.mk T F1).info? t := rfl
theorem same_run_underlying : (Go.underlying t).run (Program.mk T F) w = (Go.underlying t).run (Program.mk T F1) w := by
  have e := same_underlying (T := T) (F := F) (F1 := F1) t
  cases h : (Program.mk T F1).underlying t with
  | none => rw [h] at e; simp [Go.underlying, e, h]
  | some d => rw [h] at e; simp [Go.underlying, e, h]
theorem same_run_typeInfo : (Go.typeInfo t).run (Program.mk T F) w = (Go.typeInfo t).run (Program.mk T F1) w := by
  cases h : (Program.mk T F1).info? t with
  | none => simp [Go.typeInfo, h]
  | some d => simp [Go.typeInfo, h]
theorem same_run_sizeOf : (Go.sizeOf t).run (Program.mk T F) w = (Go.sizeOf t).run (Program.mk T F1) w := by
  cases h : (Program.mk T F1).info? t with
  | none => simp [Go.sizeOf, Go.typeInfo, h]
  | some d => simp [Go.sizeOf, Go.typeInfo, h]
theorem same_run_isAgg : (Go.isAgg t).run (Program.mk T F) w = (Go.isAgg t).run (Program.mk T F1) w := by
  have e := same_underlying (T := T) (F := F) (F1 := F1) t
  cases h : (Program.mk T F1).underlying t with
  | none => rw [h] at e; simp [Go.isAgg, Go.underlying, e, h]
  | some d => rw [h] at e; cases d <;> simp [Go.isAgg, Go.underlying, e, h]
theorem same_run_zeroValue : (Go.zeroValue t).run (Program.mk T F) w = (Go.zeroValue t).run (Program.mk T F1) w := by
  cases h : (Program.mk T F1).info? t with
  | none => simp [Go.zeroValue, Go.typeInfo, h]
  | some d => cases hz : d.zero <;> simp [Go.zeroValue, Go.typeInfo, h, hz]
end
end Go.Proofs.Ytdafpnpfcmgfcab
