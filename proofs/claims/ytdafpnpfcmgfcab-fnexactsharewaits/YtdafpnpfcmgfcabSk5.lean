/- A stretch of lone statements ahead of one that goes; the whole run of a function that goes, from its entry to its end. -/
import Derived.Test.YtdafpnpfcmgfcabJE
namespace Go.Proofs.Ytdafpnpfcmgfcab
open Go Go.Conc Go.ConcN

section
variable [Floor] {Q P : Program} {R : Exit → Act → World → Prop}
/-- The first n statements are walked alone; from then on the machine goes. -/
def wpF (Q P : Program) (R : Exit → Act → World → Prop) : Nat → Code → Act → World → Prop
  | 0, c, a, w => MW P c R a w
  | n + 1, .seq x y, a, w => x.wp Q (Exit.then (fun a w => wpF Q P R n y a w) R) a w
  | _ + 1, _, _, _ => False
def back : Nat → Code → Code
  | 0, c => c
  | n + 1, .seq _ y => back n y
  | _ + 1, _ => .skip

def willing : Code → Bool
  | .refuse _ => false
  | _ => true
theorem wpF_k {n : Nat} {x y : Code} {a : Act} {w : World} (h : ∀ K : Act → World → Prop, (∀ a w, wpF Q P R n y a w → K a w) → x.wp Q (Exit.then K R) a w) : wpF Q P R (n + 1) (.seq x y) a w := h _ fun _ _ h => h
theorem wpF_0 {c : Code} {a : Act} {w : World} (h : MW P c R a w) : wpF Q P R 0 c a w := h

theorem arr_front : ∀ (n : Nat) (c : Code) (a : Act) (w : World), wpF Q P R n c a w → ∀ (b : Frame) (k : List Item) (cs : List Frame), (∀ e a' v', R e a' v' → Ways k e) →
    ∃ e a' w', Exit.then (fun a w => MW P (back n c) R a w) R e a' w' ∧ Arrives Q (lone (b.at a (.code c :: k)) cs w) b (.code (back n c) :: k) cs e a' w' := by
  intro n
  induction n with
  | zero => exact fun c a w h b k cs _ => ⟨.normal, a, w, h, .refl _ _⟩
  | succ n ih =>
    intro c a w h b k cs hR
    cases c with
    | seq x y =>
      obtain ⟨e, a1, w1, h1, h2⟩ := h b (.code y :: k) cs
      cases e with
      | normal =>
        obtain ⟨e, a2, w2, h3, h4⟩ := ih y a1 w1 h1 b k cs hR
        exact ⟨e, a2, w2, h3, .of_steps (.head step_seq h2) h4⟩
      | exit id => exact ⟨.exit id, a1, w1, h1, .of_steps (.one step_seq) (fun k' hk => h2 k' (by simpa [exitTo] using hk))⟩
      | ret => exact ⟨.ret, a1, w1, h1, .of_steps (.one step_seq) h2⟩
      | goto l => exact (hR _ _ _ h1).elim
      | panic ch => exact (hR _ _ _ h1).elim
      | outgrown => exact (hR _ _ _ h1).elim
    | _ => exact h.elim

theorem mw_front (hT : Tamed Q P) (n : Nat) {c : Code} {a : Act} {v : World} (ha : a.defers = []) (hcd : okCode P c = true) (hn : willing (back n c) = true) (H : ∀ T, wpF Q P R n c a (World.re v 0 T)) : MW P c R a v := by
  intro b k cs m t hb hk hcs hR h
  have hk' : ∀ i ∈ (.code c :: k : List Item), okItem P i = true := fun i hi => by
    rcases List.mem_cons.1 hi with rfl | hi
    · exact hcd
    · exact hk i hi
  refine (h.rb (X := fun S g w => ∃ e a' v', Cp S v' w ∧ Exit.then (fun a w => MW P (back n c) R a w) R e a' v' ∧ Came b (.code (back n c) :: k) cs e a' g) fun S w hc => rb_arrives hT hb ha hk' hcs hc (fun T => arr_front n c a _ (H T) b k (cs ++ [bottom]) hR) (fun e a' v' hr => ?_)).trans fun m2 t2 ⟨S, nn, w, g, hn1, ⟨e, a', v', hcp, h2, h3⟩, h4⟩ => ?_
  · cases e with
    | normal =>
      intro why e
      simp only [List.cons.injEq, Item.code.injEq] at e
      rw [e.1] at hn
      cases hn
    | exit id =>
      obtain ⟨k', h1, h2⟩ := hR _ _ _ hr
      exact ⟨k', by simpa [exitTo] using h1, h2⟩
    | ret => trivial
    | goto l => exact hR _ _ _ hr
    | panic c => exact hR _ _ _ hr
    | outgrown => exact hR _ _ _ hr
  · have h5 : AtM P g v' m2 t2 := ⟨S, nn, w, hn1, hcp, h4⟩
    cases e with
    | normal =>
      obtain rfl : g = _ := h3
      exact h2 b k cs m2 t2 hb hk hcs hR h5
    | exit id => exact .refl ⟨_, a', v', g, h2, came_push (by simp) h3, h5⟩
    | ret => exact .refl ⟨_, a', v', g, h2, h3, h5⟩
    | goto l => exact (hR _ _ _ h2).elim
    | panic c => exact (hR _ _ _ h2).elim
    | outgrown => exact (hR _ _ _ h2).elim
end

/-- What the lone run sees of a world as it is. -/
def veiled (W : World) : World := { W with heap := W.heap.map veil }
theorem cp_veiled (W : World) : Cp (fun _ => False) (veiled W) W :=
  ⟨by simp [veiled], fun _ h => h.elim, fun b _ => by simp [veiled], fun _ h => h.elim, rfl, rfl⟩
theorem veiled_size (W : World) : (veiled W).heap.size = W.heap.size := by simp [veiled]
theorem tr_nil (B : Nat) : Tr (fun _ => False) B 1 #[] := by
  have nt : ∀ i a, touchAt #[] i = some a → False := fun i a h => by simp [touchAt, Trace.act?] at h
  refine ⟨⟨fun i op x h => by simp at h, fun k h1 h2 => by omega, fun k h1 h2 => by omega, fun l _ _ i a h => (nt i a h).elim, fun l _ _ i a h => (nt i a h).elim, fun said => ?_, fun i op h => by simp at h⟩, fun i g h => ?_, rfl, fun op h => by simp at h⟩
  · rintro ⟨i, j, _, ⟨a, b, ha, _⟩, _⟩
    simp [Trace.act?] at ha
  · simp [Trace.g?] at h
theorem stepG_over {P : Program} {b : Frame} {a : Act} {fn : Func} {todo : List Item} {v : Value} {w : World} (hn : b.kind = .normal) (hd : a.defers = []) (hf : P.funcs[b.fn]? = some fn) (hi : P.inits.idxOf? b.fn = none)
    (hr : (results fn a.tmps).run P w = .ok v w) (he : (results fn a.tmps).events P w #[] = #[]) :
    stepG P true (G { b.at a todo with mode := .returning } []) w = .ended (.done v) w #[] := by
  simp [G, stepG, unwind, doReturn, Frame.at, hn, hd, hf, hi, hr, he, seen, GStep.after]

/-- What a function's body must achieve that goes. -/
def BodyM [Floor] (P : Program) (fn : Func) (args : Array Value) (v : World) (Post : Value → World → Prop) : Prop :=
  ∃ c, fn.body = some c ∧ MW P c (bodyM P fn Post) ⟨args ++ Array.replicate (fn.ntmps - args.size) undef, []⟩ v
/-- What is held of the world behind the whole run. -/
def Kept0 (W : World) (Post : Value → Prop) (r : Value) (w' : World) : Prop :=
  Post r ∧ w'.os = W.os ∧ w'.output = W.output ∧ W.heap.size ≤ w'.heap.size ∧ ∀ b, b < W.heap.size → w'.heap[b]? = W.heap[b]?

/-- ████ THE WHOLE RUN. ████ -/
theorem mw_top {P : Program} {f : FuncId} {fn : Func} {args : Array Value} {W : World} {Post : Value → Prop} (hf : P.funcs[f]? = some fn) (hi : P.inits.idxOf? f = none)
    (H : ∀ [Floor], Floor.low = W.heap.size → BodyM P fn args (veiled W) (fun r v' => Post r ∧ (veiled W).heap.size ≤ v'.heap.size ∧ (∀ b, b < (veiled W).heap.size → v'.heap[b]? = (veiled W).heap[b]?) ∧ v'.os = (veiled W).os ∧ v'.output = (veiled W).output)) :
    ∃ M last o w' t', runNT P (M + 1) (solo (G (Frame.enter P f args .normal) []) W) #[] = (.ended o w', t') ∧ runN P M (solo (G (Frame.enter P f args .normal) []) W) = .next last ∧ step P last = .ended o w' ∧ Good P (Kept0 W Post) last o w' t' := by
  letI : Floor := ⟨W.heap.size⟩
  obtain ⟨c, hb, H⟩ := H rfl
  have h0 : AtM P (G ((base f).at ⟨args ++ Array.replicate (fn.ntmps - args.size) undef, []⟩ [.code c]) []) (veiled W) (solo (G (Frame.enter P f args .normal) []) W) #[] := by
    refine ⟨fun _ => False, 1, W, ⟨Nat.le_refl _, fun b h => h.elim⟩, cp_veiled W, #[G (Frame.enter P f args .normal) []], none, fun _ => 0, W.drawn, rfl, ?_, rfl, ⟨fun i g hi hg => ?_, fun j _ => rfl⟩, tr_nil _⟩
    · rw [enter_at _ hf hb]; rfl
    · obtain ⟨j, rfl⟩ : ∃ j, i = j + 1 := ⟨i - 1, by omega⟩
      simp at hg
  obtain ⟨N, m1, t1, hr1, e, a', v', g, h1, h2, h3⟩ := H (base f) [] [] _ _ rfl (by simp) (by simp) (fun e a' v' hr => by
    cases e with
    | normal => exact fun why e => by cases e
    | ret => trivial
    | _ => exact hr.elim) h0
  have fin : ∀ (todo : List Item) (N : Nat) (m1 : Machine) (t1 : Trace), runNT P N (solo (G (Frame.enter P f args .normal) []) W) #[] = (.next m1, t1) → (a'.defers = [] ∧ ∃ r, ResultsC P fn a'.tmps r ∧ Post r ∧ (veiled W).heap.size ≤ v'.heap.size ∧ (∀ b, b < (veiled W).heap.size → v'.heap[b]? = (veiled W).heap[b]?) ∧ v'.os = (veiled W).os ∧ v'.output = (veiled W).output) → AtM P (G { (base f).at a' todo with mode := .returning } []) v' m1 t1 →
      ∃ M last o w' t', runNT P (M + 1) (solo (G (Frame.enter P f args .normal) []) W) #[] = (.ended o w', t') ∧ runN P M (solo (G (Frame.enter P f args .normal) []) W) = .next last ∧ step P last = .ended o w' ∧ Good P (Kept0 W Post) last o w' t' := by
    rintro todo N m1 t1 hr1 ⟨hd, r, hres, hp, hsz, hlow, hos, hout⟩ ⟨S, n, w, ⟨_, hlo⟩, hcp, gs, sl, q, d, rfl, hg0, rfl, hL, hT⟩
    have hk : ∀ w₁, Sim S (w.at d) w₁ → Kept0 W Post r w₁ := by
      intro w₁ hs
      have hc1 : Cp S v' w₁ := hs.2 v' ((Sim.at S w d).2 v' hcp)
      refine ⟨hp, ?_, ?_, ?_, fun b hb => ?_⟩
      · rw [← hc1.os, hos]; rfl
      · rw [← hc1.output, hout]; rfl
      · rw [← hc1.size, ← veiled_size W]; exact hsz
      · have hns : ¬ S b := fun x => by have := hlo b x; change W.heap.size ≤ b at this; omega
        have h5 := hlow b (by rw [veiled_size]; exact hb)
        rw [hc1.out b hns] at h5
        have h6 : (veiled W).heap[b]? = (W.heap[b]?).map veil := by simp [veiled]
        rw [h6] at h5
        cases h7 : w₁.heap[b]? with
        | none => rw [h7] at h5; cases h8 : W.heap[b]? with
          | none => rfl
          | some o => rw [h8] at h5; cases h5
        | some o => rw [h7] at h5; cases h8 : W.heap[b]? with
          | none => rw [h8] at h5; cases h5
          | some o2 => rw [h8] at h5; rw [veil_inj (Option.some.inj h5)]
    obtain ⟨M, last, o, w', t', e1, e2, e3, e4⟩ := co_end (Post := Kept0 W Post) (sl := sl) (w := w.at d) hg0 hL hT (fun w₁ hs => ⟨rfl, r, #[], stepG_over rfl hd hf hi (hres w₁).1 (hres w₁).2, by simp, hk w₁ hs⟩)
    refine ⟨N + M, last, o, w', t', ?_, ?_, e3, e4⟩
    · rw [Nat.add_assoc, runNT_more N (M + 1) _ _ _ _ hr1]; exact e1
    · rw [← runNT_fst P _ _ #[], runNT_more N M _ _ _ _ hr1, runNT_fst]; exact e2
  cases e with
  | normal =>
    obtain rfl : g = _ := h2
    obtain ⟨N2, m2, t2, hr2, h4⟩ := h3.step rfl (fun w => stepG_end)
    exact fin [] (N + N2) m2 t2 (by rw [runNT_more N N2 _ _ _ _ hr1]; exact hr2) h1 h4
  | ret =>
    obtain ⟨todo, rfl⟩ := h2
    exact fin todo N m1 t1 hr1 h1 h3
  | _ => exact h1.elim
end Go.Proofs.Ytdafpnpfcmgfcab
