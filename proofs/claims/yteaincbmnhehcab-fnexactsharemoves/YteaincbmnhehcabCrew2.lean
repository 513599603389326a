/- Whatever step of a worker's keeps what is held, and brings the worker on. -/
import Derived.Test.YteaincbmnhehcabCrew1
namespace Go.Proofs.Yteaincbmnhehcab
open Go Go.Conc Go.ConcN
open Go.ConcR (KK wgBlock WgAt stA smA rd wr mk Payload DC0 Bk g_of_ofEvents ofEvent_loc_mark deafBehind_cons deafBehind_one bk_of_mute)

theorem sim_cells {S : Nat → Prop} {w w' : World} (hsz : w'.heap.size = w.heap.size) (hos : w'.os = w.os) (hou : w'.output = w.output) (hout : ∀ b, ¬ S b → w'.heap[b]? = w.heap[b]?)
    (hin : ∀ b, S b → w'.heap[b]? = w.heap[b]? ∨ ∀ c t f, w.heap[b]? = some (.cells c t f) → ∃ c', w'.heap[b]? = some (.cells c' t f)) : Sim S w w' := by
  refine ⟨hsz, fun v h => ⟨h.size.trans hsz.symm, h.low, fun b hb => by rw [hout b hb]; exact h.out b hb, fun b hb => ?_, h.os.trans hos.symm, h.output.trans hou.symm⟩⟩
  obtain ⟨t, c, f, e1, e2⟩ := h.brk b hb
  rcases hin b hb with h1 | h1
  · exact ⟨t, c, f, e1, h1.trans e2⟩
  · obtain ⟨c', hc⟩ := h1 c t f e2
    exact ⟨t, c', f, e1, hc⟩

theorem sim_setCell {S : Nat → Prop} {w : World} {a : Addr} (ha : S a.block) (x : Value) : Sim S w (w.setCell a x) := by
  refine sim_cells (by simp [World.setCell]) rfl rfl (fun b hb => ?_) (fun b _ => ?_)
  · have : a.block ≠ b := fun e => hb (e ▸ ha)
    simp [World.setCell, Array.getElem?_modify, this]
  · by_cases e : a.block = b
    · subst e
      right
      intro c t f hc
      exact ⟨_, by simp [World.setCell, Array.getElem?_modify, hc]; rfl⟩
    · left
      simp [World.setCell, Array.getElem?_modify, e]

/-- How far the workers are. -/
def Less (j : Nat) (D' D : Nat → WD) : Prop := Ssum j D' < Ssum j D ∨ (Ssum j D' = Ssum j D ∧ Fsum j D' < Fsum j D)

section
variable [Payload] {P : Program} {ty nty : TypeId} {S : Nat → Prop} {B0 base : Nat} {bit : Nat → Nat}
variable {j : Nat} {tag : CTag} {d0 T0 N0 : Nat} {gs : Array Goroutine} {w : World} {t : Trace} {D : Nat → WD} {Ad : Nat → Bool} {q : Nat → Nat} {st sm : Int}

theorem aside_rwk {i i' : Nat} {w' : World} (h : AsideCell (B0 + 3 + i) 1 0 w w') (hne : i' ≠ i) : RWk ty B0 i' w w' :=
  ⟨fun b hb _ _ => h.block b (by omega), fun ⟨st, sm, hl⟩ => ⟨st, sm, hl.of_block (h.block _ (by omega))⟩, fun ⟨cs, hc, hn⟩ => ⟨cs, (h.block _ (by omega)).trans hc, hn⟩, cell_of_block (h.block _ (by omega)) 0⟩
theorem aside_sim {i : Nat} {w' : World} (h : AsideCell (B0 + 3 + i) 1 0 w w') (hi : i < j) (hp : PayAt (B0 + 3 + i) 1 w) : Sim (SJ S B0 j) w w' := by
  refine sim_cells h.size h.os h.output (fun b hb => h.block b fun e => hb (.inr ⟨i, hi, e⟩)) (fun b _ => ?_)
  by_cases e : b = B0 + 3 + i
  · subst e
    right
    intro c t f hc
    obtain ⟨cs', h2, _⟩ := h.pay hp
    obtain ⟨cs, h1, _⟩ := hp
    rw [h1] at hc
    cases hc
    exact ⟨cs', h2⟩
  · exact .inl (h.block b e)
omit [Payload] in
theorem wg_rwk [Payload] {i : Nat} {w' : World} {st' sm' : Int} (h : Aside (B0 + 2) w w') (hw : WgAt ty (B0 + 2) w' st' sm') : RWk ty B0 i w w' := RW.of_wg h ⟨_, _, hw⟩ (by omega)
omit [Payload] in
theorem noted_aside {N : Nat} {w' : World} (h : NAt nty B0 N w) (hb : w'.heap[B0 + 1]? = w.heap[B0 + 1]?) : NAt nty B0 N w' := hb.trans h

omit [Payload] in
theorem okW_of {i : Nat} {fn : FuncId} {pos : String} {es : Array Event} (h : ∀ e ∈ es, EvW (B0 + 2) NoOwn (RdW S B0 base i) 1 e) : ∀ op ∈ MemOp.ofEvents (base + i) fn pos es, OkW (ShOf (S3 S B0)) NoOwn (RdP S B0 base) (base + i) op := by
  intro op hop
  obtain ⟨e, he, rfl⟩ := Go.Conc.mem_ofEvents hop
  refine ⟨rfl, fun x hx => ?_⟩
  rcases ((h e he).1 fn pos).2 x hx with ⟨⟨a, h1, h2⟩, h3⟩ | h1 | h1
  · exact .inl ⟨⟨a, h1, .inr (.inr h2)⟩, h3⟩
  · exact h1.elim
  · exact .inr (.inr h1)
omit [Payload] in
theorem okW_bk {k : Nat} {fn : FuncId} {pos : String} {es : Array Event} (h : ∀ e ∈ es, Bk (B0 + 2) e) : ∀ op ∈ MemOp.ofEvents k fn pos es, OkW (ShOf (S3 S B0)) NoOwn (RdP S B0 base) k op := by
  intro op hop
  obtain ⟨h1, h2⟩ := okW_of_Bk (Own := NoOwn) (Rd := RdP S B0 base) h op hop
  refine ⟨h1, fun x hx => ?_⟩
  rcases h2 x hx with ⟨⟨a, h3, h4⟩, h5⟩ | h3 | h3
  · exact .inl ⟨⟨a, h3, .inr (.inr h4)⟩, h5⟩
  · exact .inr (.inl h3)
  · exact .inr (.inr h3)
omit [Payload] in
theorem low_evW {i B : Nat} {fn : FuncId} {pos : String} {es : Array Event} (h : ∀ e ∈ es, EvW (B0 + 2) NoOwn (RdW S B0 base i) 1 e) (hB : B0 + 3 + i < B) : ∀ op ∈ MemOp.ofEvents (base + i) fn pos es, TLow B op := by
  intro op hop x hx
  obtain ⟨e, he, rfl⟩ := Go.Conc.mem_ofEvents hop
  rcases ((h e he).1 fn pos).2 x hx with ⟨⟨a, h1, h2⟩, h3⟩ | h1 | ⟨⟨_, a, h1, h2, _⟩, _⟩
  · rw [h1]; show a.block < B; omega
  · exact h1.elim
  · rw [h1]
    show a.block < B
    simp only [Nat.add_sub_cancel_left] at h2
    omega
omit [Payload] in
theorem low_bk {k B : Nat} {fn : FuncId} {pos : String} {es : Array Event} (h : ∀ e ∈ es, Bk (B0 + 2) e) (hB : B0 + 2 < B) : ∀ op ∈ MemOp.ofEvents k fn pos es, TLow B op := by
  intro op hop x hx
  obtain ⟨_, h2⟩ := okW_of_Bk (Own := NoOwn) (Rd := NoOwn) h op hop
  rcases h2 x hx with ⟨⟨a, h3, h4⟩, h5⟩ | h3 | h3
  · rw [h3]; show a.block < B; omega
  · exact h3.elim
  · exact h3.1.elim
end
end Go.Proofs.Yteaincbmnhehcab
