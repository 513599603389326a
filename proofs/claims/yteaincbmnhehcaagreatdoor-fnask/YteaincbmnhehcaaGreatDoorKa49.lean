/- A stretch of lone statements ahead of one that goes; the whole run of a function that goes, from its entry to its end. If, block and loop, beside those that are only leaving. The walks over DrawShareMoves, DrawShareWaits and the specification's ShareStuck. ShareStuck, beside those that are only leaving. The walk over the laws' wTexts. The laws' wBook where both books are the same. The walks over l5Thing, DrawShareWho and DrawShareOrder. Who has a thing: the program's ShareWho. Who has a thing: the specification's ShareWho. The walk over the law FnWho. -/
import Derived.Test.YteaincbmnhehcaaGreatDoorKa45
import Derived.Test.YteaincbmnhehcaaGreatDoorKa37
import Derived.Test.YteaincbmnhehcaaGreatDoorKa25
import Derived.Test.YteaincbmnhehcaaGreatDoorKa48
import Derived.Test.YteaincbmnhehcaaGreatDoorKa11
import Derived.Test.YteaincbmnhehcaaGreatDoorKa18
import Derived.Deep.RegionHeld3
import Derived.Test.YteaincbmnhehcaaGreatDoorKa17
import Derived.Test.YteaincbmnhehcaaGreatDoorKa12
namespace Go.Proofs.YteaincbmnhehcaaGreatDoor
section
open Go Go.Conc Go.ConcN
section
variable [Floor] {Q P : Program} {R : Exit → Act → World → Prop}
def wpF (Q P : Program) (R : Exit → Act → World → Prop) : Nat → Code → Act → World → Prop
 | 0, c, a, w => MW P c R a w
 | n + 1, .seq x y, a, w => x.wp Q (Exit.then (fun a w => wpF Q P R n y a w) R) a w
 | _ + 1, _, _, _ => False
def back : Nat → Code → Code
 | 0, c => c
 | n + 1, .seq _ y => back n y
 | _ + 1, _ => .skip
def willing : Code → Bool
 | .refuse _ => false
 | _ => true
theorem wpF_k {n : Nat} {x y : Code} {a : Act} {w : World} (h : ∀ K : Act → World → Prop, (∀ a w, wpF Q P R n y a w → K a w) → x.wp Q (Exit.then K R) a w) : wpF Q P R (n + 1) (.seq x y) a w := h _ fun _ _ h => h
theorem wpF_0 {c : Code} {a : Act} {w : World} (h : MW P c R a w) : wpF Q P R 0 c a w := h
theorem arr_front : ∀ (n : Nat) (c : Code) (a : Act) (w : World), wpF Q P R n c a w → ∀ (b : Frame) (k : List Item) (cs : List Frame), (∀ e a' v', R e a' v' → Ways k e) →
  ∃ e a' w', Exit.then (fun a w => MW P (back n c) R a w) R e a' w' ∧ Arrives Q (lone (b.at a (.code c :: k)) cs w) b (.code (back n c) :: k) cs e a' w' := by
 intro n
 induction n with
 | zero => exact fun c a w h b k cs _ => ⟨.normal, a, w, h, .refl _ _⟩
 | succ n ih =>
  intro c a w h b k cs hR
  cases c with
  | seq x y =>
   obtain ⟨e, a1, w1, h1, h2⟩ := h b (.code y :: k) cs
   cases e with
   | normal =>
    obtain ⟨e, a2, w2, h3, h4⟩ := ih y a1 w1 h1 b k cs hR
    exact ⟨e, a2, w2, h3, .of_steps (.head step_seq h2) h4⟩
   | exit id => exact ⟨.exit id, a1, w1, h1, .of_steps (.one step_seq) (fun k' hk => h2 k' (by simpa [exitTo] using hk))⟩
   | ret => exact ⟨.ret, a1, w1, h1, .of_steps (.one step_seq) h2⟩
   | goto l => exact (hR _ _ _ h1).elim
   | panic ch => exact (hR _ _ _ h1).elim
   | outgrown => exact (hR _ _ _ h1).elim
  | _ => exact h.elim
theorem mw_front (hT : Tamed Q P) (n : Nat) {c : Code} {a : Act} {v : World} (ha : a.defers = []) (hcd : okCode P c = true) (hn : willing (back n c) = true) (H : ∀ T, wpF Q P R n c a (World.re v 0 T)) : MW P c R a v := by
 intro b k cs m t hb hk hcs hR h
 have hk' : ∀ i ∈ (.code c :: k : List Item), okItem P i = true := fun i hi => by
  rcases List.mem_cons.1 hi with rfl | hi
  ·exact hcd
  ·exact hk i hi
 refine (h.rb (X := fun S g w => ∃ e a' v', Cp S v' w ∧ Exit.then (fun a w => MW P (back n c) R a w) R e a' v' ∧ Came b (.code (back n c) :: k) cs e a' g) fun S w hc => rb_arrives hT hb ha hk' hcs hc (fun T => arr_front n c a _ (H T) b k (cs ++ [bottom]) hR) (fun e a' v' hr => ?_)).trans fun m2 t2 ⟨S, nn, w, g, hn1, ⟨e, a', v', hcp, h2, h3⟩, h4⟩ => ?_
 ·cases e with
  | normal =>
   intro why e
   simp only [List.cons.injEq, Item.code.injEq] at e
   rw [e.1] at hn
   cases hn
  | exit id =>
   obtain ⟨k', h1, h2⟩ := hR _ _ _ hr
   exact ⟨k', by simpa [exitTo] using h1, h2⟩
  | ret => trivial
  | goto l => exact hR _ _ _ hr
  | panic c => exact hR _ _ _ hr
  | outgrown => exact hR _ _ _ hr
 ·have h5 : AtM P g v' m2 t2 := ⟨S, nn, w, hn1, hcp, h4⟩
  cases e with
  | normal =>
   obtain rfl : g = _ := h3
   exact h2 b k cs m2 t2 hb hk hcs hR h5
  | exit id => exact .refl ⟨_, a', v', g, h2, came_push (by simp) h3, h5⟩
  | ret => exact .refl ⟨_, a', v', g, h2, h3, h5⟩
  | goto l => exact (hR _ _ _ h2).elim
  | panic c => exact (hR _ _ _ h2).elim
  | outgrown => exact (hR _ _ _ h2).elim
end
def veiled (W : World) : World := { W with heap := W.heap.map veil }
def sh0 (W : World) : Sh := ⟨fun _ => False, fun b => W.heap[b]?⟩
theorem cp_veiled (W : World) : Cp (sh0 W) (veiled W) W :=
 ⟨by simp [veiled], fun _ h => h.elim, fun b _ => by simp [veiled], fun _ h => h.elim, rfl, rfl, fun _ _ _ _ => rfl, fun _ h => h.elim⟩
theorem veiled_size (W : World) : (veiled W).heap.size = W.heap.size := by simp [veiled]
theorem tr_nil (W : World) (B : Nat) : Tr (sh0 W) B 1 #[] := by
 have nt : ∀ i a, touchAt #[] i = some a → False := fun i a h => by simp [touchAt, Trace.act?] at h
 refine ⟨⟨fun i op x h => by simp at h, fun k h1 h2 => by omega, fun k h1 h2 => by omega, fun l _ _ i a h => (nt i a h).elim, fun l _ _ i a h => (nt i a h).elim, fun said => ?_, fun i op h => by simp at h⟩, fun i g h => ?_, rfl, fun op h => by simp at h⟩
 ·rintro ⟨i, j, _, ⟨a, b, ha, _⟩, _⟩
  simp [Trace.act?] at ha
 ·simp [Trace.g?] at h
theorem stepG_over {P : Program} {b : Frame} {a : Act} {fn : Func} {todo : List Item} {v : Value} {w : World} (hn : b.kind = .normal) (hd : a.defers = []) (hf : P.funcs[b.fn]? = some fn) (hi : P.inits.idxOf? b.fn = none)
  (hr : (results fn a.tmps).run P w = .ok v w) (he : (results fn a.tmps).events P w #[] = #[]) :
  stepG P true (G { b.at a todo with mode := .returning } []) w = .ended (.done v) w #[] := by
 simp [G, stepG, unwind, doReturn, Frame.at, hn, hd, hf, hi, hr, he, seen, GStep.after]
def BodyM [Floor] (P : Program) (fn : Func) (args : Array Value) (v : World) (Post : Value → World → Prop) : Prop :=
 ∃ c, fn.body = some c ∧ MW P c (bodyM P fn Post) ⟨args ++ Array.replicate (fn.ntmps - args.size) undef, []⟩ v
def Kept0 (W : World) (Post : Value → Prop) (r : Value) (w' : World) : Prop :=
 Post r ∧ w'.os = W.os ∧ w'.output = W.output ∧ W.heap.size ≤ w'.heap.size ∧ ∀ b, b < W.heap.size → w'.heap[b]? = W.heap[b]?
theorem mw_top {P : Program} {f : FuncId} {fn : Func} {args : Array Value} {W : World} {Post : Value → Prop} (hf : P.funcs[f]? = some fn) (hi : P.inits.idxOf? f = none)
  (H : ∀ [Floor], Floor.low = W.heap.size → BodyM P fn args (veiled W) (fun r v' => Post r ∧ (veiled W).heap.size ≤ v'.heap.size ∧ (∀ b, b < (veiled W).heap.size → v'.heap[b]? = (veiled W).heap[b]?) ∧ v'.os = (veiled W).os ∧ v'.output = (veiled W).output)) :
  ∃ M last o w' t', runNT P (M + 1) (solo (G (Frame.enter P f args .normal) []) W) #[] = (.ended o w', t') ∧ runN P M (solo (G (Frame.enter P f args .normal) []) W) = .next last ∧ step P last = .ended o w' ∧ Go.Conc.Good P (Kept0 W Post) last o w' t' := by
 letI : Floor := ⟨W.heap.size, fun b => W.heap[b]?⟩
 obtain ⟨c, hb, H⟩ := H rfl
 have h0 : AtM P (G ((base f).at ⟨args ++ Array.replicate (fn.ntmps - args.size) undef, []⟩ [.code c]) []) (veiled W) (solo (G (Frame.enter P f args .normal) []) W) #[] := by
  refine ⟨sh0 W, 1, W, ⟨Nat.le_refl _, fun b h => h.elim, rfl⟩, cp_veiled W, #[G (Frame.enter P f args .normal) []], none, fun _ => 0, W.drawn, rfl, ?_, rfl, ⟨fun i g hi hg => ?_, fun j _ => rfl⟩, tr_nil W _⟩
  ·rw [enter_at _ hf hb]; rfl
  ·obtain ⟨j, rfl⟩ : ∃ j, i = j + 1 := ⟨i - 1, by omega⟩
   simp at hg
 obtain ⟨N, m1, t1, hr1, e, a', v', g, h1, h2, h3⟩ := H (base f) [] [] _ _ rfl (by simp) (by simp) (fun e a' v' hr => by
  cases e with
  | normal => exact fun why e => by cases e
  | ret => trivial
  | _ => exact hr.elim) h0
 have fin : ∀ (todo : List Item) (N : Nat) (m1 : Machine) (t1 : Trace), runNT P N (solo (G (Frame.enter P f args .normal) []) W) #[] = (.next m1, t1) → (a'.defers = [] ∧ ∃ r, ResultsC P fn a'.tmps r ∧ Post r ∧ (veiled W).heap.size ≤ v'.heap.size ∧ (∀ b, b < (veiled W).heap.size → v'.heap[b]? = (veiled W).heap[b]?) ∧ v'.os = (veiled W).os ∧ v'.output = (veiled W).output) → AtM P (G { (base f).at a' todo with mode := .returning } []) v' m1 t1 →
   ∃ M last o w' t', runNT P (M + 1) (solo (G (Frame.enter P f args .normal) []) W) #[] = (.ended o w', t') ∧ runN P M (solo (G (Frame.enter P f args .normal) []) W) = .next last ∧ step P last = .ended o w' ∧ Go.Conc.Good P (Kept0 W Post) last o w' t' := by
  rintro todo N m1 t1 hr1 ⟨hd, r, hres, hp, hsz, hlow, hos, hout⟩ ⟨S, n, w, ⟨_, hlo, hstart⟩, hcp, gs, sl, q, d, rfl, hg0, rfl, hL, hT⟩
  have hk : ∀ w₁, Sim S (w.at d) w₁ → Kept0 W Post r w₁ := by
   intro w₁ hs
   have hc1 : Cp S v' w₁ := hs.2 v' ((Sim.at S w d).2 v' hcp)
   refine ⟨hp, ?_, ?_, ?_, fun b hb => ?_⟩
   ·rw [← hc1.os, hos]; rfl
   ·rw [← hc1.output, hout]; rfl
   ·rw [← hc1.size, ← veiled_size W]; exact hsz
   ·have hns : ¬ S b := fun x => by have := hlo b x; change W.heap.size ≤ b at this; omega
    have h5 := hlow b (by rw [veiled_size]; exact hb)
    have h6 : (veiled W).heap[b]? = (W.heap[b]?).map veil := by simp [veiled]
    cases h8 : W.heap[b]? with
    | none => rw [Array.getElem?_eq_getElem hb] at h8; cases h8
    | some o =>
     rw [h6, h8, Option.map_some] at h5
     rcases veil_cases o with ⟨h9, h10⟩ | ⟨h9, h10⟩
     ·have h7 := hc1.out b hns
      rw [h5, h9] at h7
      obtain ⟨o2, hw2, hv2⟩ := Option.map_eq_some_iff.1 h7.symm
      rw [hw2]
      rcases veil_cases o2 with ⟨h11, _⟩ | ⟨h11, _⟩
      ·rw [← hv2, h11]
      ·rw [h11] at hv2
       rw [← hv2, isX_odd (stand_isX o2)] at h10
       cases h10
     ·rw [hc1.mark b _ (h9 ▸ stand_isX o) h5, hstart]
      exact h8
  obtain ⟨M, last, o, w', t', e1, e2, e3, e4⟩ := co_end (Post := Kept0 W Post) (sl := sl) (w := w.at d) hg0 hL hT (fun w₁ hs => ⟨rfl, r, #[], stepG_over rfl hd hf hi (hres w₁).1 (hres w₁).2, by simp, hk w₁ hs⟩)
  refine ⟨N + M, last, o, w', t', ?_, ?_, e3, e4⟩
  ·rw [Nat.add_assoc, runNT_more N (M + 1) _ _ _ _ hr1]; exact e1
  ·rw [← runNT_fst P _ _ #[], runNT_more N M _ _ _ _ hr1, runNT_fst]; exact e2
 cases e with
 | normal =>
  obtain rfl : g = _ := h2
  obtain ⟨N2, m2, t2, hr2, h4⟩ := h3.step rfl (fun w => stepG_end)
  exact fin [] (N + N2) m2 t2 (by rw [runNT_more N N2 _ _ _ _ hr1]; exact hr2) h1 h4
 | ret =>
  obtain ⟨todo, rfl⟩ := h2
  exact fin todo N m1 t1 hr1 h1 h3
 | _ => exact h1.elim
end
section
open Go Go.Conc Go.ConcN
section
variable [Floor] {Q P : Program} {R : Exit → Act → World → Prop} {a : Act} {v : World}
theorem mw_skip (h : R .normal a v) : MW P .skip R a v := by
 intro b k cs m t hb hk hcs hR hm
 exact (hm.step rfl (fun w => stepG_skip)).trans fun m1 t1 h1 => .refl ⟨.normal, a, v, _, h, rfl, h1⟩
theorem mw_cond {c : Operand} {x y : Code} {t : Bool} (hc : a.eval c = .bool t) (h : MW P (if t = true then x else y) R a v) : MW P (.cond c x y) R a v := by
 intro b k cs m tr hb hk hcs hR hm
 refine (hm.step rfl (g' := G (b.at a (.code (if t = true then x else y) :: k)) cs) (fun w => ?_)).trans fun m1 t1 h1 => h b k cs m1 t1 hb hk hcs hR h1
 exact stepG_cond hc
def outOfBlock (id : Nat) (R : Exit → Act → World → Prop) : Exit → Act → World → Prop
 | .exit i, a, v => if i = id then R .normal a v else R (.exit i) a v
 | e, a, v => R e a v
def outOfRound (I : Nat → Act → World → Prop) (n : Nat) (R : Exit → Act → World → Prop) : Exit → Act → World → Prop
 | .normal, a, v => ∃ m, m < n ∧ I m a v
 | e, a, v => R e a v
end
end
section
open Go.RowKit
attribute [local go_sem] S_toList S_size S_get
def WaitsRes (w : World) (e : Ending) (w' : World) : Prop :=
 ∃ (b : Book) (x1 x2 : Option Addr) (y1 y2 : Nat) (s : Str), e = .returned (.tuple #[.agg #[.slice x1 b.things.length y1, .slice x2 b.batches.length y2], .string (S s)]) ∧ Ext w w' ∧ BookAt w' x1 x2 b ∧ SmB9 b ∧ s.length ≤ 140737488355328
end
section
open Go Go.Conc Go.ConcN Go.RowKit
attribute [local go_sem] S_toList S_size S_get
end
section
open Go.RowKit
attribute [local go_sem] S_toList S_size S_get
set_option maxHeartbeats 400000 in
theorem wTexts_any (a b : Option Addr) (ca cb : Nat) (sa sb : List Str) (w : World) (ha : StrsAt w a sa) (hb : StrsAt w b sb) :
  Calls Qry.prog 54 #[.slice a sa.length ca, .slice b sb.length cb] w fun e w' => e = .returned (.bool (eqS sa sb)) ∧ ∃ n, w' = w.drewN n := by
 have hn := ha.1
 have hn' := hb.1
 by_cases hl : sa.length = sb.length
 ·have HL := hl
  have hl' : ((sa.length : Int) == (sb.length : Int)) = true := by simp; omega
  go_enter Qry.func54, Tryz.ntmps54
  have HL : Hid (sa.length = sb.length) := hl
  have hle : sa.length ≤ sb.length := by omega
  clear hl
  go_wp2
  go_loopw [5] (fun i wr => ∃ k : Nat, k ≤ sa.length ∧ i = .int .i64 k ∧ (∃ m, wr = w.drewN m) ∧ ∀ j, j < k → (nth sa j == nth sb j) = true) (fun i _ => sa.length - (intOf i).toNat)
  case atStart => exact ⟨0, Nat.zero_le _, rfl, ⟨0, rfl⟩, fun j hj => by omega⟩
  case round =>
   obtain ⟨k, hk, rfl, hm, hx⟩ := hrel
   have HX : Hid (∀ j, j < k → (nth sa j == nth sb j) = true) := hx
   have ha' := ha.draws hm
   have hb' := hb.draws hm
   have HM : Hid (∃ m, wr = w.drewN m) := hm
   clear hx hm
   by_cases hlt : k < sa.length
   ·have hltb : k < sb.length := by omega
    obtain ⟨_, ba, oa, rfl, hc⟩ := ha'.2 k hlt
    obtain ⟨_, bb, ob, rfl, hcb⟩ := hb'.2 k hltb
    cases hq : (nth sa k == nth sb k)
    ·have HF : Hid (eqS sa sb = false) := eqS_no hq
     go_wp2
     go_quiet (fail)
     go_wp2
     go_ret
     exact ⟨ret_bool HF.out.symm, drewN_tr HM.out ⟨_, rfl⟩⟩
    ·have HQ : Hid ((nth sa k == nth sb k) = true) := hq
     go_wp2
     go_quiet (fail)
     go_wp2
     go_roundw
     case rel => exact ⟨k + 1, by omega, by go_num, drewN_tr HM.out ⟨_, rfl⟩, fun j hj => by
      by_cases e : j = k
      ·rw [e]; exact HQ.out
      ·exact HX.out j (by omega)⟩
     case measure => simp [intOf]; omega
   ·have HF : Hid (eqS sa sb = true) := eqS_yes HL.out (fun j hj => HX.out j (by omega))
    go_wp2
    go_ret
    exact ⟨ret_bool HF.out.symm, HM.out⟩
 ·have hl' : ((sa.length : Int) == (sb.length : Int)) = false := by simp; omega
  have HF : Hid (eqS sa sb = false) := eqS_len hl
  go_enter Qry.func54, Tryz.ntmps54
  go_wp2
  go_ret
  exact ⟨ret_bool HF.out.symm, 0, rfl⟩
end
section
open Go.RowKit
attribute [local go_sem] S_toList S_size S_get
set_option maxRecDepth 100000 in
set_option maxHeartbeats 2000000 in
theorem wBook_same (b : Book) (a1 a2 d1 d2 : Option Addr) (c1 c2 e1 e2 : Nat) (w : World) (ha : BookAt w a1 a2 b) (hd : BookAt w d1 d2 b) :
  Calls Qry.prog 16 #[.agg #[.slice a1 b.things.length c1, .slice a2 b.batches.length c2], .agg #[.slice d1 b.things.length e1, .slice d2 b.batches.length e2]] w fun e w' => e = .returned (.bool true) ∧ Ext w w' := by
 have hbl := ha.2.1
 have es := eqS_self b.things
 have e2' : ∀ o1 o2, Ext w ((w.alloc o1).alloc o2) := fun o1 o2 => Ext.tr (ext_alloc _ _) (ext_alloc _ _)
 go_enter Qry.func16, Tryz.ntmps16
 go_wp2_with fail
 refine (wTexts_any _ _ _ _ _ _ _ (ha.1.ext (e2' _ _)) (hd.1.ext (e2' _ _))).mono ?_
 rintro e w1 ⟨rfl, n1, hw1⟩
 have hE1 : Ext ((w.alloc (.cells #[.slice a1 b.things.length c1, .slice a2 b.batches.length c2] 26)).alloc (.cells #[.slice d1 b.things.length e1, .slice d2 b.batches.length e2] 26)) w1 := by rw [hw1]; exact ext_drewN _ _
 have HR1 : Hid (Rec w1 w.heap.size 26 [.slice a1 b.things.length c1, .slice a2 b.batches.length c2]) := (Rec.new w _ _).ext (Ext.tr (ext_alloc _ _) hE1)
 have HR2 : Hid (Rec w1 (w.heap.size + 1) 26 [.slice d1 b.things.length e1, .slice d2 b.batches.length e2]) := by
  have h' := (Rec.new (w.alloc (.cells #[.slice a1 b.things.length c1, .slice a2 b.batches.length c2] 26)) 26 [.slice d1 b.things.length e1, .slice d2 b.batches.length e2]).ext hE1
  have h2 : Rec w1 (w.heap.size + 1) 26 [.slice d1 b.things.length e1, .slice d2 b.batches.length e2] := by simpa using h'
  exact h2
 have HE1 := hid (Ext.tr (e2' _ _) hE1)
 clear hE1 hw1 e2'
 rw [es]
 have p1 := HR1.out.cell (i := 1) rfl
 have q1 := HR2.out.cell (i := 1) rfl
 go_wp2_with fail
 go_loopw [5] (fun i wr => ∃ k : Nat, k ≤ b.batches.length ∧ i = .int .i64 k ∧ Ext w1 wr) (fun i _ => b.batches.length - (intOf i).toNat)
 case atStart => exact ⟨0, Nat.zero_le _, rfl, Ext.rfl' _⟩
 case round =>
  obtain ⟨k, hk, rfl, hext⟩ := hrel
  have HE := hid hext
  have HRa := hid (HR1.out.ext hext)
  have HRb := hid (HR2.out.ext hext)
  have p1 := HRa.out.cell (i := 1) rfl
  have q1 := HRb.out.cell (i := 1) rfl
  have ha' := ha.ext (Ext.tr HE1.out hext)
  have hd' := hd.ext (Ext.tr HE1.out hext)
  clear hext
  by_cases hlt : k < b.batches.length
  ·obtain ⟨ba, oa, rfl, _, xa1, ya1, xa2, ya2, ca0, ca1, ca2, sa1, sa2⟩ := ha'.2.2 k hlt
   obtain ⟨bd, od, rfl, _, xd1, yd1, xd2, yd2, cd0, cd1, cd2, sd1, sd2⟩ := hd'.2.2 k hlt
   have esn : ((nthB b.batches k).name == (nthB b.batches k).name) = true := by simp
   have es1 := eqS_self (nthB b.batches k).has
   have es2 := eqS_self (nthB b.batches k).needs
   go_wp2_with fail
   refine wp_region_T (fun w' => w'.cell? ⟨w.heap.size, 1, none⟩ = some (.slice (some ⟨ba, oa, none⟩) b.batches.length c2) ∧ w'.cell? ⟨w.heap.size + 1, 1, none⟩ = some (.slice (some ⟨bd, od, none⟩) b.batches.length e2) ∧
    w'.cell? ⟨ba, oa + k * 3, none⟩ = some (.string (S (nthB b.batches k).name)) ∧ w'.cell? ⟨bd, od + k * 3, none⟩ = some (.string (S (nthB b.batches k).name)) ∧
    w'.cell? ⟨ba, oa + k * 3 + 1, none⟩ = some (.slice xa1 (nthB b.batches k).has.length ya1) ∧ w'.cell? ⟨bd, od + k * 3 + 1, none⟩ = some (.slice xd1 (nthB b.batches k).has.length yd1) ∧
    w'.cell? ⟨ba, oa + k * 3 + 2, none⟩ = some (.slice xa2 (nthB b.batches k).needs.length ya2) ∧ w'.cell? ⟨bd, od + k * 3 + 2, none⟩ = some (.slice xd2 (nthB b.batches k).needs.length yd2)) 45 (by kernel_rfl) ⟨p1, q1, ca0, cd0, ca1, cd1, ca2, cd2⟩ (fun hS => ?_)
   refine tn 0 hS ?_
   try simp only [List.set]
   refine tn 1 hS ?_
   try simp only [List.set]
   refine tn 2 hS ?_
   try simp only [List.set]
   refine tn 3 hS ?_
   try simp only [List.set]
   refine tn 4 hS ?_
   try simp only [List.set]
   refine tn 5 hS ?_
   try simp only [List.set]
   refine tn 6 hS ?_
   try simp only [List.set]
   refine tn 7 hS ?_
   try simp only [List.set]
   refine tn 8 hS ?_
   try simp only [List.set]
   refine tn 9 hS ?_
   try simp only [List.set]
   refine tn 10 hS ?_
   try simp only [List.set]
   refine tn 11 hS ?_
   try simp only [List.set]
   refine wpT_takeN 12 (v := .bool false) rfl rfl (by kernel_rfl) (by kernel_rfl) (by kernel_rfl) (by kernel_rfl) (fun _ _ _ h => h) hS rfl (by intro w0 hw0; (try dsimp only at hw0); go_simp) ?_
   try simp only [List.set]
   refine tn 13 hS ?_
   try simp only [List.set]
   refine tn 14 hS ?_
   try simp only [List.set]
   refine tn 15 hS ?_
   try simp only [List.set]
   refine tn 16 hS ?_
   try simp only [List.set]
   refine tn 17 hS ?_
   try simp only [List.set]
   refine tn 18 hS ?_
   try simp only [List.set]
   refine tn 19 hS ?_
   try simp only [List.set]
   refine tn 20 hS ?_
   try simp only [List.set]
   refine tn 21 hS ?_
   try simp only [List.set]
   refine tn 22 hS ?_
   try simp only [List.set]
   refine tn 23 hS ?_
   try simp only [List.set]
   refine tn 24 hS ?_
   try simp only [List.set]
   refine tn 25 hS ?_
   try simp only [List.set]
   refine wpT_one 26 rfl (by kernel_rfl) rfl rfl (fun K hK => ?_)
   go_simp
   refine (wTexts_any _ _ _ _ _ _ _ (sa1.drewN 1) (sd1.drewN 1)).mono ?_
   rintro e w3 ⟨rfl, j3, hw3⟩
   have hE3 : Ext wr w3 := by rw [hw3]; exact Ext.tr (ext_drewN _ 1) (ext_drewN _ _)
   clear hw3
   rw [es1]
   go_wp2_with fail
   refine hK.out _ _ ⟨hE3.keep p1, hE3.keep q1, hE3.keep ca0, hE3.keep cd0, hE3.keep ca1, hE3.keep cd1, hE3.keep ca2, hE3.keep cd2⟩ (fun hS1 => ?_)
   clear hK hS
   have hS := hS1
   clear hS1
   try clear K
   try simp only [put_some, List.set]
   refine tn 27 hS ?_
   try simp only [List.set]
   refine tn 28 hS ?_
   try simp only [List.set]
   refine tn 29 hS ?_
   try simp only [List.set]
   refine tn 30 hS ?_
   try simp only [List.set]
   refine tn 31 hS ?_
   try simp only [List.set]
   refine tn 32 hS ?_
   try simp only [List.set]
   refine tn 33 hS ?_
   try simp only [List.set]
   refine tn 34 hS ?_
   try simp only [List.set]
   refine tn 35 hS ?_
   try simp only [List.set]
   refine tn 36 hS ?_
   try simp only [List.set]
   refine tn 37 hS ?_
   try simp only [List.set]
   refine tn 38 hS ?_
   try simp only [List.set]
   refine tn 39 hS ?_
   try simp only [List.set]
   refine tn 40 hS ?_
   try simp only [List.set]
   refine tn 41 hS ?_
   try simp only [List.set]
   refine wpT_one 42 rfl (by kernel_rfl) rfl rfl (fun K hK => ?_)
   go_simp
   refine (wTexts_any _ _ _ _ _ _ _ (sa2.ext hE3) (sd2.ext hE3)).mono ?_
   rintro e w4 ⟨rfl, j4, hw4⟩
   have hE4 : Ext wr w4 := by rw [hw4]; exact Ext.tr hE3 (ext_drewN _ _)
   clear hw4
   rw [es2]
   go_wp2_with fail
   refine hK.out _ _ ⟨hE4.keep p1, hE4.keep q1, hE4.keep ca0, hE4.keep cd0, hE4.keep ca1, hE4.keep cd1, hE4.keep ca2, hE4.keep cd2⟩ (fun hS1 => ?_)
   clear hK hS
   have hS := hS1
   clear hS1
   try clear K
   try simp only [put_some, List.set]
   refine tn 43 hS ?_
   try simp only [List.set]
   refine tn 44 hS ?_
   try simp only [List.set]
   refine wpT_done (by kernel_rfl) ?_ _
   have HE4 := hid (Ext.tr HE.out hE4)
   clear hE3 hE4 hS sa1 sa2 sd1 sd2 ca0 ca1 ca2 cd0 cd1 cd2 ha' hd'
   go_wp2_with fail
   go_roundw
   case rel => exact ⟨k + 1, by omega, by go_num, HE4.out⟩
   case measure => simp [intOf]; omega
  ·have e : k = b.batches.length := by omega
   subst e
   go_wp2_with fail
   go_ret
   exact ⟨rfl, Ext.tr HE1.out HE.out⟩
end
section
open Go.RowKit
attribute [local go_sem] S_toList S_size S_get
def wordsT : List Str := [[], [122, 122], [107, 101, 103]]
end
section
open Go.RowKit Go.Maps
attribute [local go_sem] S_toList S_size S_get
set_option maxHeartbeats 1000000 in
theorem implWho_any (b : Book) (t : Str) (a1 a2 : Option Addr) (c1 c2 : Nat) (w : World) (hb : BookAt w a1 a2 b) (htl : t.length ≤ 140737488355328) :
  Calls Qry.prog 23 #[.agg #[.slice a1 b.things.length c1, .slice a2 b.batches.length c2], .string (S t)] w fun e w' =>
   e = .returned (.string (S (whoOf b t))) ∧ Ext w w' := by
 have hal : ∀ o, Ext w (w.alloc o) := fun o => (Below.refl _ _).alloc (Nat.le_refl _) _
 have hn := hb.2.1
 cases hok : bookOk b
 ·have HF : Hid ([] = whoOf b t) := by show _ = _; simp [whoOf, hok]
  go_enter Qry.func23, Tryz.ntmps23
  go_wp2_with fail
  refine (implBookOk_any b _ _ _ _ _ (hb.ext (hal _))).mono ?_
  rintro e w1 ⟨rfl, hext1⟩
  have HE1 := hid (Ext.tr (hal _) hext1)
  clear hext1
  go_wp2_with fail
  go_ret
  exact ⟨ret_str HF.out, HE1.out⟩
 ·have HW : Hid (whoOf b t = whoFrom b.batches t) := by show _ = _; simp [whoOf, hok]
  go_enter Qry.func23, Tryz.ntmps23
  go_wp2_with fail
  refine (implBookOk_any b _ _ _ _ _ (hb.ext (hal _))).mono ?_
  rintro e w1 ⟨rfl, hext1⟩
  have HE1 := hid hext1
  have hb1 := hb.ext (Ext.tr (hal _) hext1)
  clear hext1
  have hx0 := box_cell HE1.out (i := 0) rfl
  have hx1 := box_cell HE1.out (i := 1) rfl
  go_wp2_with fail
  refine (holders_any _ _ _ _ hb1.2 (ok_five hok)).mono ?_
  rintro e w2 ⟨hext2, (⟨rfl, ho⟩ | ⟨B, rfl, _, m, D, hom, _, hmap⟩)⟩
  ·rw [ok_once hok] at ho; cases ho
  ·have HE2 := hid (Ext.tr HE1.out hext2)
   have hb2 := hb1.ext hext2
   clear hext2 hx0 hx1
   have hx0 := box_cell HE2.out (i := 0) rfl
   have hx1 := box_cell HE2.out (i := 1) rfl
   have hkey := keyStr htl
   cases hq : hasB (keys (pairsTo b.batches b.batches.length)) t
   ·have hhas : Maps.has D (.string t) = false := by rw [hmap.2.1, hq]
    have HF : Hid ([] = whoOf b t) := by
     show _ = _
     rw [HW.out]
     refine (whoFrom_no (fun j hj => ?_)).symm
     rw [← Bool.not_eq_true, hasB_true] at hq ⊢
     exact fun h => hq (mem_keys.2 ⟨j, hj, h⟩)
    clear hmap hb2
    go_wp2_with (at_lookup; refine wpList_lookup_own_ok_int _ rfl _ _ 85 rfl 9 3 .i64 lawStr (uQ Tryz.underlying85) (uQ Tryz.underlying3) (zeroInt _) B m D rfl hom _ _ rfl hkey ?_; intro c hat hwc; rw [hhas])
    go_ret
    exact ⟨ret_str HF.out, Ext.tr (hal _) HE2.out⟩
   ·have hhas : Maps.has D (.string t) = true := by rw [hmap.2.1, hq]
    obtain ⟨p, hp, hmem⟩ := mem_keys.1 (hasB_true.1 hq)
    have hin : ∀ {n : Nat}, p < n → (t, p) ∈ pairsTo b.batches n := by
     intro n
     induction n with
     | zero => intro h; omega
     | succ n ih =>
      intro h
      rw [pairsTo, List.mem_append]
      by_cases e : p = n
      ·subst e
       exact Or.inr (List.mem_map.2 ⟨t, hmem, rfl⟩)
      ·exact Or.inl (ih (by omega))
    have hat := hmap.2.2 t p (.lit (.int .i64 0)) (hin hp)
    have HF : Hid ((nthB b.batches p).name = whoOf b t) := by
     show _ = _
     rw [HW.out]; exact (who_unique hok hp hmem).symm
    obtain ⟨ba, oa, rfl, hl, d1, g1, d2, g2, p0, p1, p2, s1, s2⟩ := hb2.2.2 p hp
    have HAT := hid hat
    clear hmap hb2 hin hat hb1 hb
    go_wp2_with (at_lookup; refine wpList_lookup_own_ok_int _ rfl _ _ 85 rfl 9 3 .i64 lawStr (uQ Tryz.underlying85) (uQ Tryz.underlying3) (zeroInt _) B m D rfl hom _ _ rfl hkey ?_; intro c hat hwc; rw [hhas, lit_inj HAT.out hat])
    go_ret
    exact ⟨ret_str HF.out, Ext.tr (hal _) HE2.out⟩
end
section
open Go.RowKit Go.Maps
attribute [local go_sem] S_toList S_size S_get
end
section
open Go.RowKit
attribute [local go_sem] S_toList S_size S_get
set_option maxHeartbeats 400000 in
theorem wHas_any (a : Option Addr) (cap : Nat) (ss : List Str) (x : Str) (w : World) (hs : StrsAt w a ss) :
  Calls Qry.prog 24 #[.slice a ss.length cap, .string (S x)] w fun e w' => e = .returned (.bool (hasB ss x)) ∧ w' = w := by
 have hn := hs.1
 go_enter Qry.func24, Tryz.ntmps24
 go_wp2
 go_loop [5] (fun i => ∃ k : Nat, k ≤ ss.length ∧ i = .int .i64 k ∧ ∀ j, j < k → (nth ss j == x) = false) (fun i => ss.length - (intOf i).toNat)
 case atStart => exact ⟨0, Nat.zero_le _, rfl, fun j hj => by omega⟩
 case round =>
  obtain ⟨k, hk, rfl, hx⟩ := hrel
  have HX : Hid (∀ j, j < k → (nth ss j == x) = false) := hx
  clear hx
  by_cases hlt : k < ss.length
  ·obtain ⟨_, b, o, rfl, hc⟩ := hs.2 k hlt
   cases hq : (nth ss k == x)
   ·go_wp2
    go_round
    case rel => exact ⟨k + 1, by omega, by go_num, fun j hj => by
     by_cases e : j = k
     ·rw [e]; exact hq
     ·exact HX.out j (by omega)⟩
    case measure => simp [intOf]; omega
   ·have HF : Hid (hasB ss x = true) := hasB_of hlt hq
    go_wp2
    go_ret
    exact ⟨ret_bool HF.out.symm, rfl⟩
  ·have HF : Hid (hasB ss x = false) := hasB_no (fun j hj => HX.out j (by omega))
   go_wp2
   go_ret
   exact ⟨ret_bool HF.out.symm, rfl⟩
theorem wHas_v (a : Option Addr) (cap : Nat) (ss : List Str) (x : Str) (v : Bool) (w : World) (hs : StrsAt w a ss) (hv : hasB ss x = v) :
  Calls Qry.prog 24 #[.slice a ss.length cap, .string (S x)] w fun e w' => e = .returned (.bool v) ∧ w' = w := by
 rw [← hv]; exact wHas_any a cap ss x w hs
def CntOk (b : Book) (t : Str) (k c : Nat) : Prop := (c = 0 ∧ ∀ j, j < k → hasB (nthB b.batches j).has t = false) ∨ (c = 1 ∧ ∃ j, j < k ∧ hasB (nthB b.batches j).has t = true)
end
end Go.Proofs.YteaincbmnhehcaaGreatDoor
