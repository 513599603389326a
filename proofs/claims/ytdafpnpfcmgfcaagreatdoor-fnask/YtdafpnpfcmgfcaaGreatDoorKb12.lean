/- What follows a stop may be said anew; the way through Add. Between calls: goroutine 0 beside leavers, and what the lone run sees. The group's library in this program. A call of a function value, in company. A worker's whole way: its birth, the look, the addition, Done. -/
import Derived.Test.YtdafpnpfcmgfcaaGreatDoorKb11
import Derived.Test.YtdafpnpfcmgfcaaGreatDoorChecked
import Derived.Conc.WgGenN3
import Derived.Conc.CompanyMem
import Derived.Conc.WgWords
namespace Go.Proofs.YtdafpnpfcmgfcaaGreatDoor
section
open Go Go.Conc Go.ConcN
open Go.ConcR (KK wgBlock WgAt stA smA rd wr mk Payload DC0 Bk g_of_ofEvents)
theorem any_rely {R : World → World → Prop} {w w₁ : World} (h : True) (_ : R w w₁) : True := h
theorem goes_imp {P : Program} {main : Bool} {R : World → World → Prop} {D : World → World → Array Event → Prop} {A B : Goroutine → World → Prop} (hAB : ∀ g w, A g w → B g w) : ∀ (n : Nat) (g : Goroutine) (w : World), Goes P main R D A n g w → Goes P main R D B n g w := by
 intro n
 induction n with
 | zero => exact fun g w h w₁ h₁ => hAB _ _ (h w₁ h₁)
 | succ n ih =>
  intro g w h
  rcases h with h | ⟨hr, h⟩
  ·exact Or.inl fun w₁ h₁ => hAB _ _ (h w₁ h₁)
  ·refine Or.inr ⟨hr, fun w₁ h₁ => ?_⟩
   obtain ⟨g', w', es, e, hd, hg⟩ := goes_elim (h w₁ h₁)
   rw [e]
   exact ⟨hd, ih g' w' hg⟩
section
variable {P : Program} {ty : TypeId} {Wg : Nat} {A B : Goroutine → World → Prop}
theorem AtWord.mono {mm : Mark} (hAB : ∀ g w, A g w → B g w) {g : Goroutine} {w : World} (h : AtWord P ty Wg mm A g w) : AtWord P ty Wg mm B g w := by
 obtain ⟨h1, g', h2, k, h3⟩ := h
 exact ⟨h1, g', h2, k, goes_imp hAB k g' w h3⟩
theorem AtMid.mono (hAB : ∀ g w, A g w → B g w) {g : Goroutine} {w : World} (h : AtMid P ty Wg A g w) : AtMid P ty Wg B g w := by
 rcases h with h | h
 ·exact Or.inl (h.mono fun _ _ x => x.mono hAB)
 ·exact Or.inr (h.mono hAB)
theorem AtPlus.mono (hAB : ∀ g w, A g w → B g w) {g : Goroutine} {w : World} (h : AtPlus P ty Wg A g w) : AtPlus P ty Wg B g w := by
 obtain ⟨h1, h2⟩ := h
 refine ⟨h1, fun v hv hw => ?_⟩
 obtain ⟨g', h3, k, h4⟩ := h2 v hv hw
 exact ⟨g', h3, k, goes_imp (fun _ _ x => AtMid.mono hAB x) k g' _ h4⟩
theorem goesE_imp (hAB : ∀ g w, A g w → B g w) {g : Goroutine} {w : World} (h : ∃ k, Goes P true (RS ty Wg) DC0 A k g w) : ∃ k, Goes P true (RS ty Wg) DC0 B k g w := let ⟨k, h⟩ := h; ⟨k, goes_imp hAB k g w h⟩
theorem AtJoin.mono (hAB : ∀ g w, A g w → B g w) {g : Goroutine} {w : World} (h : AtJoin P ty Wg A g w) : AtJoin P ty Wg B g w := AtWord.mono (fun _ _ x => x.mono hAB) h
theorem AtLook.mono (hAB : ∀ g w, A g w → B g w) {g : Goroutine} {w : World} (h : AtLook P ty Wg A g w) : AtLook P ty Wg B g w :=
 ⟨h.1, fun hw => let ⟨g', h1, h2⟩ := h.2 hw; ⟨g', h1, goesE_imp (fun _ _ x => AtJoin.mono hAB x) h2⟩⟩
theorem AtSem.mono (hAB : ∀ g w, A g w → B g w) {g : Goroutine} {w : World} (h : AtSem P ty Wg A g w) : AtSem P ty Wg B g w :=
 ⟨h.1, h.2.1, h.2.2.1, fun hw => let ⟨g', h1, h2⟩ := h.2.2.2 hw; ⟨g', h1, goesE_imp (fun _ _ x => AtLook.mono hAB x) h2⟩⟩
theorem AtCas.mono {C D : Goroutine → World → Prop} (hAB : ∀ g w, A g w → B g w) (hCD : ∀ g w, C g w → D g w) {vs : Nat} {g : Goroutine} {w : World} (h : AtCas P ty Wg A C vs g w) : AtCas P ty Wg B D vs g w :=
 ⟨h.1, fun v hv hw => ⟨fun e => let ⟨g', h1, h2⟩ := (h.2 v hv hw).1 e; ⟨g', h1, goesE_imp (fun _ _ x => AtWord.mono (fun _ _ y => AtSem.mono hAB y) x) h2⟩, fun e => let ⟨g', h1, h2⟩ := (h.2 v hv hw).2 e; ⟨g', h1, goesE_imp hCD h2⟩⟩⟩
theorem AtSee.mono {C D : Goroutine → World → Prop} (hAB : ∀ g w, A g w → B g w) (hCD : ∀ g w, C g w → D g w) {g : Goroutine} {w : World} (h : AtSee P ty Wg A C g w) : AtSee P ty Wg B D g w :=
 ⟨h.1, fun v hv hw => let ⟨g', h1, h2, h3⟩ := h.2 v hv hw; ⟨g', h1, fun e => goesE_imp (fun _ _ x => AtJoin.mono hAB x) (h2 e), fun e => goesE_imp (fun _ _ x => AtCas.mono hAB hCD x) (h3 e)⟩⟩
end
section
variable [Payload] {P : Program} {ty nty : TypeId} {S : Sh} {B0 base : Nat} {bit : Nat → Nat} {T0 N0 : Nat} {j : Nat} {tag : CTag} {d0 : Nat} {a : Goroutine} {v : World} {vm : Nat} {m : Machine} {t : Trace}
theorem Here.mid {Next : Goroutine → World → Prop} {r : Nat} (h : Here P ty nty S B0 base bit T0 N0 j (.sp r 3) 1 a v vm m t) (hs : ∀ w₁, WgLive ty (B0 + 2) w₁ → AtMid P ty (B0 + 2) Next a w₁) (hj : j + 1 < 2147483648) (hbits : ∀ Ad', N0 + bitsIn bit j Ad' < 4294967296) :
  Rch P m t (fun m' t' => ∃ a', (∀ w₁, WgLive ty (B0 + 2) w₁ → Next a' w₁) ∧ Here P ty nty S B0 base bit T0 N0 j (.sp r 3) 0 a' v vm m' t') := by
 have hrun := h.run hs (fun _ x => by rcases x with x | x <;> exact x.1)
 have hjp : j + pend (.sp r 3) < 2147483648 := by simp [pend]; omega
 refine (h.step hrun (by simp) hjp hbits (Nx := fun a' tag' d0' v' vm' => tag' = .sp r 3 ∧ v' = v ∧ vm' = vm ∧ ((d0' = 1 ∧ ∃ k w1, Goes P true (RS ty (B0 + 2)) DC0 (AtWord P ty (B0 + 2) .enable Next) k a' w1) ∨ (d0' = 0 ∧ ∃ k w1, Goes P true (RS ty (B0 + 2)) DC0 Next k a' w1))) fun w t D Ad q st sm gs hc hcp hv => ?_).trans fun m' t' hx => ?_
 ·rcases hs w ⟨_, _, hc.wg⟩ with ⟨_, g', hgo, k, hk⟩ | ⟨_, g', hgo, k, hk⟩
  ·obtain ⟨h1, h2⟩ := word_touch (S := S) (base := base) (B0 := B0) (mm := .read ⟨B0 + 2, 1, none⟩) (Or.inr (Or.inr (Or.inr (Or.inl rfl)))) (B := w.heap.size) (k := base + j - 1) (by have := hc.room; omega) (fn := a.frame.fn) (pos := a.frame.place)
   exact ⟨g', w, _, .sp r 3, st, sm, v, vm, hgo, leaves_refl w, h1, h2, hc.wg, hc.mode, hcp, hv, rfl, rfl, rfl, Or.inl ⟨rfl, k, w, hk⟩⟩
  ·obtain ⟨h1, h2⟩ := word_touch (S := S) (base := base) (B0 := B0) (mm := .enable) (Or.inr (Or.inl rfl)) (B := w.heap.size) (k := base + j - 1) (by have := hc.room; omega) (fn := a.frame.fn) (pos := a.frame.place)
   exact ⟨g', w, _, .sp r 3, st, sm, v, vm, hgo, leaves_refl w, h1, h2, hc.wg, hc.mode, hcp, hv, rfl, rfl, rfl, Or.inr ⟨rfl, k, w, hk⟩⟩
 ·obtain ⟨a', tag', d0', v', vm', ⟨rfl, rfl, rfl, hx⟩, h'⟩ := hx
  rcases hx with ⟨rfl, k, w1, hk⟩ | ⟨rfl, k, w1, hk⟩
  ·refine (Here.goes (by simp) hjp hbits k a' w1 m' t' hk h').trans fun m2 t2 ⟨a2, hs2, h2⟩ => ?_
   exact h2.word hs2 (Or.inr (Or.inl rfl)) (by simp) hjp hbits
  ·exact Here.goes (by simp) hjp hbits k a' w1 m' t' hk h'
theorem Here.add {Next : Goroutine → World → Prop} {r : Nat} (h : Here P ty nty S B0 base bit T0 N0 j (.sp r 5) 0 a v vm m t) (hs : ∀ w₁, WgLive ty (B0 + 2) w₁ → AtWord P ty (B0 + 2) .disable (AtPlus P ty (B0 + 2) Next) a w₁) (hj : j + 1 < 2147483648) (hbits : ∀ Ad', N0 + bitsIn bit j Ad' < 4294967296) :
  Rch P m t (fun m' t' => ∃ a', (∀ w₁, WgLive ty (B0 + 2) w₁ → Next a' w₁) ∧ Here P ty nty S B0 base bit T0 N0 j (.sp r 3) 0 a' v vm m' t') := by
 refine (h.word hs (Or.inl rfl) (by simp) (by simp [pend]; omega) hbits).trans fun m1 t1 ⟨a1, hs1, h1⟩ => ?_
 exact (Here.plus h1 hs1 hj hbits).trans fun m2 t2 ⟨a2, hs2, h2⟩ => h2.mid hs2 hj hbits
end
end
section
open Go Go.Conc Go.ConcN
open Go.ConcR (KK wgBlock WgAt stA smA rd wr mk Payload DC0 Bk g_of_ofEvents)
class Floor where
 low : Nat
 start : Nat → Option Obj
def AtM [Floor] (P : Program) (g : Goroutine) (v : World) (m : Machine) (t : Trace) : Prop := ∃ S n w, (1 ≤ n ∧ (∀ b, S b → Floor.low ≤ b) ∧ S.start = Floor.start) ∧ Cp S v w ∧ Beside P S n g w m t
structure Vj (v : World) (lookv : Value) (lty : TypeId) (j : Nat) (u : World) : Prop where
 size : u.heap.size = v.heap.size + 3 + j
 low : ∀ b, b < v.heap.size → u.heap[b]? = v.heap[b]?
 box : u.heap[v.heap.size]? = some (.cells #[lookv] lty)
 os : u.os = v.os
 output : u.output = v.output
section
variable {P : Program} {S : Sh} {B0 : Nat} {v w : World}
theorem sj0 : SJ S B0 0 = S3 S B0 := by
 have h : (SJ S B0 0).on = (S3 S B0).on := by
  funext b
  refine propext ⟨fun h => ?_, Or.inl⟩
  rcases h with h | ⟨i, hi, _⟩
  ·exact h
  ·exact absurd hi (Nat.not_lt_zero _)
 show (⟨(SJ S B0 0).on, S.start⟩ : Sh) = ⟨(S3 S B0).on, S.start⟩
 rw [h]
theorem Cp.shun {b : Nat} {c : Array Value} {ty : TypeId} (h : Cp S v w) (hb : ¬ S b) (hw : w.heap[b]? = some (.cells c ty)) : Cp ⟨fun x => S x ∨ x = b, S.start⟩ { v with heap := v.heap.setIfInBounds b (.cells #[] ty) } w := by
 have hlt : b < w.heap.size := (Array.getElem?_eq_some_iff.1 hw).1
 have hltv : b < v.heap.size := by rw [h.size]; exact hlt
 refine ⟨by simpa using h.size, fun x hx => ?_, fun x hx => ?_, fun x hx => ?_, h.os, h.output, fun x o hX hx => ?_, fun a ha => ?_⟩
 ·rcases hx with hx | rfl
  ·simpa using h.low x hx
  ·simpa using hltv
 ·have h1 : ¬ S x := fun y => hx (Or.inl y)
  have h2 : b ≠ x := fun y => hx (Or.inr y.symm)
  show (v.heap.setIfInBounds b _)[x]? = _
  rw [Array.getElem?_setIfInBounds_ne h2]
  exact h.out x h1
 ·by_cases hxb : x = b
  ·subst hxb
   refine ⟨ty, c, (0, 0), ?_, hw⟩
   show (v.heap.setIfInBounds x _)[x]? = _
   simp [hltv]
  ·obtain ⟨t, c', f, e1, e2⟩ := h.brk x (hx.resolve_right hxb)
   refine ⟨t, c', f, ?_, e2⟩
   show (v.heap.setIfInBounds b _)[x]? = _
   rw [Array.getElem?_setIfInBounds_ne (Ne.symm hxb)]
   exact e1
 ·by_cases hxb : x = b
  ·subst hxb
   have e : (v.heap.setIfInBounds x (.cells #[] ty))[x]? = some (.cells #[] ty) := by simp [hltv]
   have hx' : (v.heap.setIfInBounds x (.cells #[] ty))[x]? = some o := hx
   rw [e] at hx'
   exact absurd (Option.some.inj hx' ▸ hX) isX_row
  ·have hx' : (v.heap.setIfInBounds b (.cells #[] ty))[x]? = some o := hx
   rw [Array.getElem?_setIfInBounds_ne (Ne.symm hxb)] at hx'
   exact h.mark x o hX hx'
 ·show (match (v.heap.setIfInBounds b (.cells #[] ty))[a.block]? with | some (.cells _ _ (lo, hi)) => decide (lo ≤ a.off) && decide (a.off < hi) | _ => false) = false
  by_cases hab : a.block = b
  ·rw [hab]
   simp [hltv]
  ·rw [Array.getElem?_setIfInBounds_ne (Ne.symm hab)]
   exact h.cold a (ha.resolve_right hab)
theorem Cp.same_set {S' : Sh} (h : Cp S v w) (e : ∀ b, S b ↔ S' b) (hs : S.start = S'.start) : Cp S' v w := by
 have : S = S' := by
  obtain ⟨a, b⟩ := S
  obtain ⟨a', b'⟩ := S'
  have h1 : a = a' := funext fun x => propext (e x)
  have h2 : b = b' := hs
  rw [h1, h2]
 rw [← this]; exact h
theorem cellv_lt {b k : Nat} {x : Value} (hx : v.cell? ⟨b, k, none⟩ = some x) : b < v.heap.size := by
 unfold World.cell? at hx
 cases hb : v.heap[b]? with
 | none => simp [hb] at hx
 | some o => exact (Array.getElem?_eq_some_iff.1 hb).1
theorem Cp.knows (h : Cp S v w) {b k : Nat} {x : Value} (hx : v.cell? ⟨b, k, none⟩ = some x) : ¬ S b ∧ w.cell? ⟨b, k, none⟩ = some x ∧ b < v.heap.size := by
 have hn : ¬ S b := fun hs => by rw [h.cellS (a := ⟨b, k, none⟩) hs] at hx; cases hx
 exact ⟨hn, by rw [← h.cell (a := ⟨b, k, none⟩) hn]; exact hx, cellv_lt hx⟩
end
section
variable [Payload] {P : Program} {ty nty : TypeId} {S : Sh} {B0 base : Nat} {bit : Nat → Nat} {T0 N0 : Nat} {a : Goroutine} {v : World} {vm : Nat} {m : Machine} {t : Trace} {tag : CTag}
theorem Here.over [Floor] (hS : ∀ b, S b → Floor.low ≤ b) (hst : S.start = Floor.start) (hB : Floor.low ≤ B0) (h : Here P ty nty S B0 base bit T0 N0 0 tag 0 a v vm m t) : AtM P a v m t := by
 obtain ⟨gs, w, sl, D, Ad, q, st, sm, rfl, h0, hc, hcp, hv⟩ := h
 obtain ⟨hL, hT⟩ := hc.free
 refine ⟨S3 S B0, gs.size, w, ⟨(Array.getElem?_eq_some_iff.1 h0).1, fun b hb => ?_, hst⟩, by rw [← sj0]; exact hcp, gs, sl, q, w.drawn, rfl, h0, rfl, hL, hT⟩
 rcases hb with hb | hb | hb
 ·exact hS b hb
 ·omega
 ·omega
end
end
section
open Go Go.Conc
abbrev link : Go.Conc.Lib.WgLink := { add := 113, done := 115, wait := 117, relMerge := 129, disable := 130, enable := 131, inBubble := 132, associate := 133, fatal := 134, uOr := 135, uAdd := 136, raceRead := 137, uLoad := 138, uStore := 139, disassociate := 140, semrelease := 141, acquire := 143, isAssociated := 144, uCas := 145, raceWrite := 146, semacquire := 147, orU64 := 152, addU64 := 153, loadU64 := 154, storeU64 := 155, casU64 := 156, tWgP := 193, tUP := 135, tAssoc := 195, tWg := 172, tAU := 170, tU64 := 168, tUint := 122, tU32 := 119, tPU32 := 199, tPAU := 211, tPU64 := 213, tNoCopy := 166, tANoCopy := 163, tAlign64 := 167 }
theorem wgLib : Go.Conc.Lib.WgLib Tryz.prog link :=
 ⟨Tryz.func113, Tryz.func115, Tryz.func117, Tryz.func129, Tryz.func130, Tryz.func131, Tryz.func132, Tryz.func133, Tryz.func134, Tryz.func135, Tryz.func136, Tryz.func137, Tryz.func138, Tryz.func139, Tryz.func140, Tryz.func141, Tryz.func143, Tryz.func144, Tryz.func145, Tryz.func146, Tryz.func147, Tryz.func152, Tryz.func153, Tryz.func154, Tryz.func155, Tryz.func156, Tryz.underlying193, Tryz.runUnderlying193, Tryz.sizeOf193, Tryz.isAgg193, Tryz.zeroValue193, Tryz.underlying135, Tryz.runUnderlying135, Tryz.sizeOf135, Tryz.isAgg135, Tryz.zeroValue135, Tryz.underlying195, Tryz.runUnderlying195, Tryz.sizeOf195, Tryz.isAgg195, Tryz.zeroValue195, Tryz.underlying172, Tryz.runUnderlying172, Tryz.sizeOf172, Tryz.isAgg172, Tryz.zeroValue172, Tryz.underlying170, Tryz.runUnderlying170, Tryz.sizeOf170, Tryz.isAgg170, Tryz.zeroValue170, Tryz.underlying168, Tryz.runUnderlying168, Tryz.sizeOf168, Tryz.isAgg168, Tryz.zeroValue168, Tryz.underlying122, Tryz.runUnderlying122, Tryz.sizeOf122, Tryz.isAgg122, Tryz.zeroValue122, Tryz.underlying119, Tryz.runUnderlying119, Tryz.sizeOf119, Tryz.isAgg119, Tryz.zeroValue119, Tryz.underlying199, Tryz.runUnderlying199, Tryz.sizeOf199, Tryz.isAgg199, Tryz.zeroValue199, Tryz.underlying211, Tryz.runUnderlying211, Tryz.sizeOf211, Tryz.isAgg211, Tryz.zeroValue211, Tryz.underlying213, Tryz.runUnderlying213, Tryz.sizeOf213, Tryz.isAgg213, Tryz.zeroValue213, Tryz.underlying0, Tryz.runUnderlying0, Tryz.sizeOf0, Tryz.isAgg0, Tryz.zeroValue0, Tryz.underlying3, Tryz.runUnderlying3, Tryz.sizeOf3, Tryz.isAgg3, Tryz.zeroValue3, Tryz.underlying4, Tryz.runUnderlying4, Tryz.sizeOf4, Tryz.isAgg4, Tryz.zeroValue4, Tryz.underlying9, Tryz.runUnderlying9, Tryz.sizeOf9, Tryz.isAgg9, Tryz.zeroValue9, Tryz.underlying20, Tryz.runUnderlying20, Tryz.sizeOf20, Tryz.isAgg20, Tryz.zeroValue20, Tryz.underlying21, Tryz.runUnderlying21, Tryz.sizeOf21, Tryz.isAgg21, Tryz.zeroValue21, (by kernel_rfl), (by kernel_rfl)⟩
instance : Go.ConcR.Payload := ⟨3⟩
end
section
open Go Go.Conc
section
variable {P : Program} {main : Bool} {a : Act} {w : World} {o : Oper} {x : Operand} {args : Array Operand} {ats : Array TypeId} {f : FuncId} {fn : Func} {first cap : Array Value}
theorem run_call_val (hop : o.op = .call { callee := .value x, args, argTypes := ats }) (hx : a.eval x = .func (.func f) first cap)
  (hf : P.funcs[f]? = some fn) (hname : (fn.name == "runtime.NumGoroutine") = false) (hb : fn.body.isNone = false) : (execOp a.eval o).run P w = .ok (.enter f (first ++ args.map a.eval ++ cap)) w := by
 have h1 : ¬ fn.name = "runtime.NumGoroutine" := by simpa using hname
 have h2 : ¬ fn.body = none := by cases hx : fn.body <;> simp_all
 unfold execOp
 simp [hop, resolve, Deferred.ofValue, invoke, callFunc, hf, h1, h2, hx]
theorem events_call_val (hop : o.op = .call { callee := .value x, args, argTypes := ats }) (hx : a.eval x = .func (.func f) first cap)
  (hf : P.funcs[f]? = some fn) (hname : (fn.name == "runtime.NumGoroutine") = false) (hb : fn.body.isNone = false) (es : Array Event) : (execOp a.eval o).events P w es = es := by
 have h1 : ¬ fn.name = "runtime.NumGoroutine" := by simpa using hname
 have h2 : ¬ fn.body = none := by cases hx : fn.body <;> simp_all
 unfold execOp
 simp [hop, resolve, Deferred.ofValue, invoke, callFunc, hf, h1, h2, hx]
variable {b : Frame} {k : List Item} {cs : List Frame} {ops : Array Oper} {i : Nat} {rest : List Nat}
theorem stepG_callV {c : Code} (ho : ops[i]? = some o) (hw : Region.wanted o (yielded ops a.tmps) = true) (hk : b.kind ≠ .early) (hop : o.op = .call { callee := .value x, args, argTypes := ats }) (hx : a.eval x = .func (.func f) first cap)
  (hf : P.funcs[f]? = some fn) (hname : (fn.name == "runtime.NumGoroutine") = false) (hb : fn.body = some c) :
  stepG P main (G (b.at a (.inRegion ops (i :: rest) :: k)) cs) w = .go (G ((base f).at { tmps := (first ++ args.map a.eval ++ cap) ++ Array.replicate (fn.ntmps - (first ++ args.map a.eval ++ cap).size) undef, defers := [] } [.code c]) (b.at a (.inRegion ops (i :: rest) :: k) :: cs)) w #[] := by
 have hb' : fn.body.isNone = false := by rw [hb]; rfl
 rw [stepG_enter ho hw hk (run_call_val hop hx hf hname hb'), enter_at _ hf hb]
 have : listed P b.fn a o w = #[] := by unfold listed; rw [events_call_val hop hx hf hname hb']; exact seen_none P _
 rw [this]
theorem Goes.callV {R : World → World → Prop} {D : World → World → Array Event → Prop} (T : Terms R D) {nf m : Nat} {Post : Value → World → Prop} {Stop : Goroutine → World → Prop}
  (ho : ops[i]? = some o) (hw : Region.wanted o (yielded ops a.tmps) = true) (hk : b.kind ≠ .early) (hop : o.op = .call { callee := .value x, args, argTypes := ats }) (hx : a.eval x = .func (.func f) first cap) {vs : Array Value} (hargs : args.map a.eval = vs)
  (hcall : CallsC P main R D f (first ++ vs ++ cap) nf w Post)
  (hnext : ∀ v w', Post v w' → Goes P main R D Stop m (G (b.at (a.put o.dst v) (.inRegion ops rest :: k)) cs) w') :
  Goes P main R D Stop (m + nf + 3) (G (b.at a (.inRegion ops (i :: rest) :: k)) cs) w := by
 subst hargs
 obtain ⟨fn, c, hf, hname, hbody, hwp⟩ := hcall
 have hfin : ∀ v, (b.at a (.inRegion ops (i :: rest) :: k)).finish v = b.at (a.put o.dst v) (.inRegion ops rest :: k) := fun v => by rw [Frame.finish_at, ho]; rfl
 have hleave : ∀ (a' : Act) (w' : World) (todo : List Item), (a'.defers = [] ∧ ∃ v, ResultsC P fn a'.tmps v ∧ Post v w') →
   Goes P main R D Stop (m + 1) (G { (base f).at a' todo with mode := .returning } (b.at a (.inRegion ops (i :: rest) :: k) :: cs)) w' := by
  rintro a' w' todo ⟨hd, v, hr, hp⟩
  refine Goes.step rfl fun w₁ h₁ => ?_
  rw [stepG_leave (b := base f) rfl hd hf (hr w₁).1 (hr w₁).2, hfin]
  exact ⟨T.idle _, (hnext v w' hp).rely T.trans h₁⟩
 have hbodyG : Goes P main R D Stop (m + 2 + nf) (G ((base f).at { tmps := (first ++ args.map a.eval ++ cap) ++ Array.replicate (fn.ntmps - (first ++ args.map a.eval ++ cap).size) undef, defers := [] } [.code c]) (b.at a (.inRegion ops (i :: rest) :: k) :: cs)) w := by
  refine hwp (base f) [] _ Stop (m + 2) rfl (by simp [base]) fun e a' w' q => ?_
  cases e with
  | normal => exact Goes.step rfl fun w₁ h₁ => by rw [stepG_end]; exact ⟨T.idle _, (hleave a' w' [] q).rely T.trans h₁⟩
  | ret => exact fun todo => (hleave a' w' todo q).more
  | _ => exact q.elim
 have e : m + nf + 3 = (m + 2 + nf) + 1 := by omega
 rw [e]
 exact Goes.step rfl fun w₁ h₁ => by
  rw [stepG_callV ho hw hk hop hx hf hname hbody]
  exact ⟨T.idle _, hbodyG.rely T.trans h₁⟩
end
end
section
open Go Go.Conc Go.ConcN Go.RowKit Go.Conc.Lib Go.ConcR.Gen Go.ConcN.Gen
open Go.ConcR (KK wgBlock WgAt stA smA rd wr mk Payload Aside2 DC0 ofEvent_cell)
def bW : Frame := baseD 114
noncomputable def bot : Frame := { (default : Frame) with fn := Tryz.prog.funcs.size, defers := [], mode := .panicking [goexitEntry] }
noncomputable def bodyW : Code := Tryz.f114.body.getD .skip
def callW (B0 i : Nat) : Deferred := { target := .fn (.func 114) #[.pointer (some ⟨B0 + 2, 0, none⟩), .pointer (some ⟨B0, 0, none⟩), .pointer (some ⟨B0 + 3 + i, 0, none⟩), .pointer (some ⟨B0 + 1, 0, none⟩)], args := #[] }
structure Kw (B0 i : Nat) (w0 w : World) : Prop where
 low : ∀ b k x, b ≤ B0 → w0.cell? ⟨b, k, none⟩ = some x → w.cell? ⟨b, k, none⟩ = some x
 own : w.cell? ⟨B0 + 3 + i, 0, none⟩ = some (.int .i64 i)
 live : WgLive 172 (B0 + 2) w
section
variable {S : Sh} {B0 bs i : Nat} {w0 w w₁ : World} {lookv : Value}
theorem Kw.rely (h : Kw B0 i w0 w) (r : RW 172 (B0 + 2) (B0 + 3 + i) 1 (B0 + 1) 0 w w₁) : Kw B0 i w0 w₁ :=
 ⟨fun b k x hb hx => (cell_of_block (r.low b (by omega) (by omega) (by omega)) k).trans (h.low b k x hb hx), r.cell.trans h.own, r.live h.live⟩
theorem Kw.look (h : Kw B0 i w0 w) (hl : w0.cell? ⟨B0, 0, none⟩ = some lookv) : w.cell? ⟨B0, 0, none⟩ = some lookv := h.low B0 0 _ (Nat.le_refl _) hl
theorem Kw.kn (h : Kw B0 i w0 w) : WgLive 172 (B0 + 2) w ∧ Has (B0 + 3 + i) 0 (.int .i64 i) w := ⟨h.live, h.own⟩
theorem evW_rd (hS : ∀ b, S b → b < B0) (a : Addr) (s : Bool) (h : (a.block ≤ B0 ∧ ¬ S a.block) ∨ a.block = B0 + 3 + i) : EvW (B0 + 2) NoOwn (RdW S B0 bs i) 1 ⟨.cell a, false, s⟩ := by
 refine ⟨fun fn pos => ⟨rfl, fun y hy => ?_⟩, by simp, by simp, by simp⟩
 simp only [ofEvent_cell, MemAct.touch?, Option.some.injEq] at hy
 subst hy
 refine Or.inr (Or.inr ⟨⟨by omega, a, rfl, ?_, ?_⟩, rfl⟩)
 ·rcases h with h | h <;> omega
 ·rcases h with h | h
  ·exact h.2
  ·exact fun hs => by have := hS _ hs; omega
end
theorem termsW {S : Sh} {B0 bs i : Nat} : Terms (RW 172 (B0 + 2) (B0 + 3 + i) 1 (B0 + 1) 0) (DWs (B0 + 2) NoOwn (RdW S B0 bs i) (B0 + 3 + i) 1 1) := ⟨fun _ _ _ h h' => RW.trans h h', fun _ => dws_none (by simp)⟩
theorem quitsTail (T : Array Value) : QuitsD Tryz.prog 2 0 (G { bW.at ⟨T, []⟩ [] with mode := .returning } [bot]) := by
 refine QuitsD.ctl (g' := G bot []) rfl (fun w => ?_) ?_
 ·simp [G, stepG, unwind, doReturn, results, Frame.at, bW, baseD, bot, Tryz.func114, Tryz.f114, seen, GStep.after, goexitEntry]
 refine QuitsD.ctl (g' := { G bot [] with status := .finished }) rfl (fun w => ?_) ⟨rfl, rfl⟩
 simp [G, stepG, unwind, bot, goexitEntry, Frame.catches]
 rfl
theorem born_step (B0 i : Nat) (w : World) : stepG Tryz.prog false (born Tryz.prog (callW B0 i)) w =
  .go (G (bW.at ⟨#[.pointer (some ⟨B0 + 2, 0, none⟩), .pointer (some ⟨B0, 0, none⟩), .pointer (some ⟨B0 + 3 + i, 0, none⟩), .pointer (some ⟨B0 + 1, 0, none⟩), undef, undef, undef, undef, undef, undef], []⟩ [.code bodyW]) [bot]) w #[] := by
 simp [born, callW, stepG, unwind, callDeferred, invoke, callFunc, Tryz.func114, Tryz.f114, seen, GStep.after, G, Frame.enter, Frame.at, bW, baseD, bot, bodyW]
theorem nm_add32 : (Tryz.f116.name == "runtime.NumGoroutine") = false := by kernel_rfl
theorem x_add32_n : (Tryz.f142.name == "runtime.NumGoroutine") = false := by kernel_rfl
theorem x_add32_b : Tryz.f142.body.isNone = true := by kernel_rfl
theorem x_add32_x : Extern.findNext Tryz.f142 = none := by kernel_rfl
theorem x_add32_f : Extern.find Tryz.f142 = some (Extern.Atomic.update (Op.intArith .add) .u32 true) := by kernel_rfl
theorem shl_val {i z : Nat} (hi : i < 32) (hz : 2 ^ i = z) : Op.shift .shl .u32 1 .i64 (i : Int) = pure (.int .u32 (z : Int)) := by
 subst hz
 have h0 : ¬ ((i : Int) < 0) := by omega
 have h2 : min (i : Int).toNat IntKind.u32.bits = i := by
  have : IntKind.u32.bits = 32 := rfl
  rw [this]; omega
 have hp : 2 ^ i < 2 ^ 32 := Nat.pow_lt_pow_right (by omega) hi
 have e : (1 : Int) * 2 ^ i = ((2 ^ i : Nat) : Int) := by simp
 have h1 : IntKind.u32.wrap ((1 : Int) * 2 ^ i) = ((2 ^ i : Nat) : Int) := by
  rw [IntKind.wrap_u32, e]
  generalize 2 ^ i = z at hp
  omega
 unfold Op.shift
 simp only [h0, if_false, h2, h1]
section
variable {P : Program} {w : World} {a : Act} {o : Oper} {x : Operand} {t t2 : TypeId} {i z : Nat}
theorem run_shl (hop : o.op = .binOp .shl t (.const (.int .u32 1)) x t2) (hx : a.eval x = .int .i64 i) (hi : i < 32) (hz : 2 ^ i = z) : (execOp a.eval o).run P w = .ok (.value (.int .u32 (z : Int))) w := by
 have hc : a.eval (.const (.int .u32 1)) = .int .u32 1 := rfl
 unfold execOp
 simp [hop, hx, hc, binOp, eqGuard, shl_val hi hz]
theorem ev_shl (hop : o.op = .binOp .shl t (.const (.int .u32 1)) x t2) (hx : a.eval x = .int .i64 i) (hi : i < 32) (hz : 2 ^ i = z) : (execOp a.eval o).events P w #[] = #[] := by
 have hc : a.eval (.const (.int .u32 1)) = .int .u32 1 := rfl
 unfold execOp
 simp [hop, hx, hc, binOp, eqGuard, shl_val hi hz]
end
set_option maxRecDepth 100000 in
set_option maxHeartbeats 4000000 in
theorem tailW {S : Sh} {B0 bs i : Nat} {w0 w : World} (T : Array Value) (hF : Kw B0 i w0 w) :
  Goes Tryz.prog false (RW 172 (B0 + 2) (B0 + 3 + i) 1 (B0 + 1) 0) (DWs (B0 + 2) NoOwn (RdW S B0 bs i) (B0 + 3 + i) 1 1) (AtR0 Tryz.prog 172 (B0 + 2) (B0 + 3 + i) 1 (B0 + 1) 1 (.int .i64 i)) 25
   (G (bW.at ⟨T, [dcall 115 #[.pointer (some ⟨B0 + 2, 0, none⟩)]]⟩ []) [bot]) w := by
 u_c stepG_end Kw.rely hF
 g_unwB Kw.rely hF Tryz.func115 (nm_done link) Tryz.f115
 have hA := @doneN _ link Tryz.prog wgLib NoOwn (RdW S B0 bs i) (B0 + 2) (B0 + 3 + i) 1 (B0 + 1) 1 (.int .i64 i)
 simp only [body_done, doneFn, Option.getD_some] at hA
 exact hA rfl (quitsTail _) _ hF.kn
set_option maxRecDepth 100000 in
set_option maxHeartbeats 4000000 in
theorem worksW {S : Sh} {B0 bs i : Nat} {w0 : World} {lf : FuncId} {first cap : Array Value} {nf : Nat} {y : Bool} {bit : Nat → Nat} (hS : ∀ b, S b → b < B0) (hl : w0.cell? ⟨B0, 0, none⟩ = some (.func (.func lf) first cap))
  (hlook : ∀ w, (∀ b k x, b ≤ B0 → w0.cell? ⟨b, k, none⟩ = some x → w.cell? ⟨b, k, none⟩ = some x) → CallsC Tryz.prog false (RWk 172 B0 i) (DWk S B0 bs i) lf (first ++ #[.int .i64 i] ++ cap) nf w (fun r w' => r = .bool y ∧ RWk 172 B0 i w w'))
  (hi : i < 32) (hbit : y = true → bit i = 2 ^ i) : ∃ m0, ∀ w, Kw B0 i w0 w → WkS Tryz.prog 172 165 S B0 bs bit i (!y) 7 m0 0 (born Tryz.prog (callW B0 i)) w := by
 unfold RWk DWk at hlook
 cases y with
 | false =>
  refine ⟨_, fun w hF => .go (.r0 (m := 40 + nf + 3 + 9) ?_)⟩
  refine Goes.step rfl fun w₁ h₁ => ?_
  replace hF := hF.rely h₁
  clear h₁
  rw [born_step]
  refine ⟨by u_nil, ?_⟩
  simp only [bodyW, Tryz.f114, Option.getD_some]
  u_c stepG_seq Kw.rely hF
  u_reg Kw.rely hF
  u_defer Kw.rely hF
  u_c stepG_region_end Kw.rely hF
  u_c stepG_seq Kw.rely hF
  u_reg Kw.rely hF
  u_in Kw.rely hF
  refine goes_oper_k rfl rfl (by decide) (fun K hK => ?_)
  have h1 := hF.look hl
  have h2 := hF.own
  go_simp
  refine hK _ _ ⟨⟨AsideCell.refl _ _ _ _, fun e he => ?_⟩, ?_⟩
  ·have hm := mem_listed he
   simp [go_sem, *] at hm
   subst hm
   exact evW_rd hS _ _ (by first | exact Or.inr rfl | exact Or.inl ⟨Nat.le_refl _, fun hs => Nat.lt_irrefl _ (hS _ hs)⟩)
  clear hK K h1 h2
  u_in Kw.rely hF
  refine goes_oper_k rfl rfl (by decide) (fun K hK => ?_)
  have h1 := hF.look hl
  have h2 := hF.own
  go_simp
  refine hK _ _ ⟨⟨AsideCell.refl _ _ _ _, fun e he => ?_⟩, ?_⟩
  ·have hm := mem_listed he
   simp [go_sem, *] at hm
   subst hm
   exact evW_rd hS _ _ (by first | exact Or.inr rfl | exact Or.inl ⟨Nat.le_refl _, fun hs => Nat.lt_irrefl _ (hS _ hs)⟩)
  clear hK K h1 h2
  try walk_nrm
  refine Goes.callV (m := 40) termsW rfl rfl (by decide) rfl rfl (by simp [Act.eval]) (hlook _ hF.low) ?_
  intro r w2 hr
  obtain ⟨rfl, hr⟩ := hr
  replace hF := hF.rely hr
  clear hr
  try walk_nrm
  u_c stepG_region_end Kw.rely hF
  u_cond false Kw.rely hF
  u_c stepG_skip Kw.rely hF
  exact Goes.mono (tailW _ hF) (by omega)
 | true =>
  refine ⟨_, fun w hF => .pre (m := 40 + nf + 3 + 9) (M2 := 60) ?_⟩
  unfold RWk DWk
  obtain ⟨z, hz⟩ : ∃ z : Nat, 2 ^ i = z := ⟨_, rfl⟩
  replace hbit : bit i = z := (hbit rfl).trans hz
  refine Goes.step rfl fun w₁ h₁ => ?_
  replace hF := hF.rely h₁
  clear h₁
  rw [born_step]
  refine ⟨by u_nil, ?_⟩
  simp only [bodyW, Tryz.f114, Option.getD_some]
  u_c stepG_seq Kw.rely hF
  u_reg Kw.rely hF
  u_defer Kw.rely hF
  u_c stepG_region_end Kw.rely hF
  u_c stepG_seq Kw.rely hF
  u_reg Kw.rely hF
  u_in Kw.rely hF
  refine goes_oper_k rfl rfl (by decide) (fun K hK => ?_)
  have h1 := hF.look hl
  have h2 := hF.own
  go_simp
  refine hK _ _ ⟨⟨AsideCell.refl _ _ _ _, fun e he => ?_⟩, ?_⟩
  ·have hm := mem_listed he
   simp [go_sem, *] at hm
   subst hm
   exact evW_rd hS _ _ (by first | exact Or.inr rfl | exact Or.inl ⟨Nat.le_refl _, fun hs => Nat.lt_irrefl _ (hS _ hs)⟩)
  clear hK K h1 h2
  u_in Kw.rely hF
  refine goes_oper_k rfl rfl (by decide) (fun K hK => ?_)
  have h1 := hF.look hl
  have h2 := hF.own
  go_simp
  refine hK _ _ ⟨⟨AsideCell.refl _ _ _ _, fun e he => ?_⟩, ?_⟩
  ·have hm := mem_listed he
   simp [go_sem, *] at hm
   subst hm
   exact evW_rd hS _ _ (by first | exact Or.inr rfl | exact Or.inl ⟨Nat.le_refl _, fun hs => Nat.lt_irrefl _ (hS _ hs)⟩)
  clear hK K h1 h2
  try walk_nrm
  refine Goes.callV (m := 40) termsW rfl rfl (by decide) rfl rfl (by simp [Act.eval]) (hlook _ hF.low) ?_
  intro r w2 hr
  obtain ⟨rfl, hr⟩ := hr
  replace hF := hF.rely hr
  clear hr
  try walk_nrm
  u_c stepG_region_end Kw.rely hF
  u_cond true Kw.rely hF
  u_reg Kw.rely hF
  u_in Kw.rely hF
  refine goes_oper_k rfl rfl (by decide) (fun K hK => ?_)
  have h1 := hF.look hl
  have h2 := hF.own
  go_simp
  refine hK _ _ ⟨⟨AsideCell.refl _ _ _ _, fun e he => ?_⟩, ?_⟩
  ·have hm := mem_listed he
   simp [go_sem, *] at hm
   subst hm
   exact evW_rd hS _ _ (by first | exact Or.inr rfl | exact Or.inl ⟨Nat.le_refl _, fun hs => Nat.lt_irrefl _ (hS _ hs)⟩)
  clear hK K h1 h2
  try walk_nrm
  u_in Kw.rely hF
  rw [stepG_value rfl rfl (by decide) (run_shl rfl rfl hi hz), listed_nil (ev_shl rfl rfl hi hz)]
  simp only [goes_go]
  refine ⟨by u_nil, ?_⟩
  walk_nrm
  u_call Tryz.func116 nm_add32 Tryz.f116 Kw.rely hF
  repeat (first | u_op Kw.rely hF | u_c stepG_region_end Kw.rely hF | u_reg Kw.rely hF | u_c stepG_seq Kw.rely hF)
  refine Goes.stop (fun w₁ h₁ => ?_)
  replace hF := hF.rely h₁
  clear h₁
  refine ⟨rfl, fun N hN hn => ?_⟩
  rw [hbit] at hN ⊢
  have e0 : IntKind.u32.wrap ((N : Int) + (z : Int)) = ((N + z : Nat) : Int) := by rw [IntKind.wrap_u32]; omega
  have hc : w₁.cell? (nA B0) = some (.int .u32 N) := by unfold World.cell? nA; rw [hn]; rfl
  have hfz : w₁.frozen? (nA B0) = false := by unfold World.frozen? nA; rw [hn]; rfl
  refine ⟨_, (stepG_add_atomic rfl rfl (by decide) rfl Tryz.func142 x_add32_n x_add32_b x_add32_x .u32 x_add32_f rfl rfl hc hfz).trans (by rw [e0]; rfl), ?_⟩
  generalize ((N + z : Nat) : Int) = u
  replace hF : Kw B0 i w0 (w₁.setCell (nA B0) (.int .u32 u)) := by
   have hA := aside_setCell w₁ (nA B0) (.int .u32 u)
   exact ⟨fun b k x hb hx => (cell_of_block (hA.block b (by simp [nA]; omega)) k).trans (hF.low b k x hb hx), (cell_of_block (hA.block (B0 + 3 + i) (by simp [nA]; omega)) 0).trans hF.own, let ⟨st, sm, h⟩ := hF.live; ⟨st, sm, h.of_block (hA.block (B0 + 2) (by simp [nA]))⟩⟩
  clear hn hc hfz e0
  unfold RWk DWk R0k
  walk_nrm
  repeat (first | u_op Kw.rely hF | u_c stepG_region_end Kw.rely hF | u_c stepG_ret' Kw.rely hF | u_leave1 Tryz.func116 Kw.rely hF)
  exact Goes.mono (tailW _ hF) (by omega)
end
end Go.Proofs.YtdafpnpfcmgfcaaGreatDoor
