/- A worker's whole way: its birth, the look, the addition, Done. -/
import Derived.Test.YtdafpnpfcmgfcabCrewL
import Derived.Test.YtdafpnpfcmgfcabCrewV
import Derived.Test.YtdafpnpfcmgfcabJD
import Derived.Conc.WgWords
namespace Go.Proofs.Ytdafpnpfcmgfcab
open Go Go.Conc Go.ConcN Go.RowKit Go.Conc.Lib Go.ConcR.Gen Go.ConcN.Gen
open Go.ConcR (KK wgBlock WgAt stA smA rd wr mk Payload Aside2 DC0 ofEvent_cell)

def bW : Frame := baseD 53
noncomputable def bot : Frame := { (default : Frame) with fn := Try.prog.funcs.size, defers := [], mode := .panicking [goexitEntry] }
noncomputable def bodyW : Code := Try.f53.body.getD .skip
/-- The call that the i-th go statement holds: the group, the look, the place, the number. -/
def callW (B0 i : Nat) : Deferred := { target := .fn (.func 53) #[.pointer (some ⟨B0 + 2, 0, none⟩), .pointer (some ⟨B0, 0, none⟩), .pointer (some ⟨B0 + 3 + i, 0, none⟩), .pointer (some ⟨B0 + 1, 0, none⟩)], args := #[] }

/-- What worker number i knows of the world. -/
structure Kw (B0 i : Nat) (w0 w : World) : Prop where
  low : ∀ b k x, b ≤ B0 → w0.cell? ⟨b, k, none⟩ = some x → w.cell? ⟨b, k, none⟩ = some x
  own : w.cell? ⟨B0 + 3 + i, 0, none⟩ = some (.int .i64 i)
  live : WgLive 93 (B0 + 2) w

section
variable {S : Nat → Prop} {B0 bs i : Nat} {w0 w w₁ : World} {lookv : Value}
theorem Kw.rely (h : Kw B0 i w0 w) (r : RW 93 (B0 + 2) (B0 + 3 + i) 1 (B0 + 1) 0 w w₁) : Kw B0 i w0 w₁ :=
  ⟨fun b k x hb hx => (cell_of_block (r.low b (by omega) (by omega) (by omega)) k).trans (h.low b k x hb hx), r.cell.trans h.own, r.live h.live⟩
theorem Kw.look (h : Kw B0 i w0 w) (hl : w0.cell? ⟨B0, 0, none⟩ = some lookv) : w.cell? ⟨B0, 0, none⟩ = some lookv := h.low B0 0 _ (Nat.le_refl _) hl
theorem Kw.kn (h : Kw B0 i w0 w) : WgLive 93 (B0 + 2) w ∧ Has (B0 + 3 + i) 0 (.int .i64 i) w := ⟨h.live, h.own⟩

theorem evW_rd (hS : ∀ b, S b → b < B0) (a : Addr) (s : Bool) (h : (a.block ≤ B0 ∧ ¬ S a.block) ∨ a.block = B0 + 3 + i) : EvW (B0 + 2) NoOwn (RdW S B0 bs i) 1 ⟨.cell a, false, s⟩ := by
  refine ⟨fun fn pos => ⟨rfl, fun y hy => ?_⟩, by simp, by simp, by simp⟩
  simp only [ofEvent_cell, MemAct.touch?, Option.some.injEq] at hy
  subst hy
  refine .inr (.inr ⟨⟨by omega, a, rfl, ?_, ?_⟩, rfl⟩)
  · rcases h with h | h <;> omega
  · rcases h with h | h
    · exact h.2
    · exact fun hs => by have := hS _ hs; omega
end

theorem termsW {S : Nat → Prop} {B0 bs i : Nat} : Terms (RW 93 (B0 + 2) (B0 + 3 + i) 1 (B0 + 1) 0) (DWs (B0 + 2) NoOwn (RdW S B0 bs i) (B0 + 3 + i) 1 1) := ⟨fun _ _ _ h h' => RW.trans h h', fun _ => dws_none (by simp)⟩

/-- The literal's own way out, once Done has left: it only leaves. -/
theorem quitsTail (T : Array Value) : QuitsD Try.prog 2 0 (G { bW.at ⟨T, []⟩ [] with mode := .returning } [bot]) := by
  refine QuitsD.ctl (g' := G bot []) rfl (fun w => ?_) ?_
  · simp [G, stepG, unwind, doReturn, results, Frame.at, bW, baseD, bot, Try.func53, Try.f53, seen, GStep.after, goexitEntry]
  refine QuitsD.ctl (g' := { G bot [] with status := .finished }) rfl (fun w => ?_) ⟨rfl, rfl⟩
  simp [G, stepG, unwind, bot, goexitEntry, Frame.catches]
  rfl

theorem born_step (B0 i : Nat) (w : World) : stepG Try.prog false (born Try.prog (callW B0 i)) w =
    .go (G (bW.at ⟨#[.pointer (some ⟨B0 + 2, 0, none⟩), .pointer (some ⟨B0, 0, none⟩), .pointer (some ⟨B0 + 3 + i, 0, none⟩), .pointer (some ⟨B0 + 1, 0, none⟩), undef, undef, undef, undef, undef, undef], []⟩ [.code bodyW]) [bot]) w #[] := by
  simp [born, callW, stepG, unwind, callDeferred, invoke, callFunc, Try.func53, Try.f53, seen, GStep.after, G, Frame.enter, Frame.at, bW, baseD, bot, bodyW]

theorem nm_add32 : (Try.f55.name == "runtime.NumGoroutine") = false := by kernel_rfl
theorem x_add32_n : (Try.f75.name == "runtime.NumGoroutine") = false := by kernel_rfl
theorem x_add32_b : Try.f75.body.isNone = true := by kernel_rfl
theorem x_add32_x : Extern.findNext Try.f75 = none := by kernel_rfl
theorem x_add32_f : Extern.find Try.f75 = some (Extern.Atomic.update (Op.intArith .add) .u32 true) := by kernel_rfl

theorem shl_val {i z : Nat} (hi : i < 32) (hz : 2 ^ i = z) : Op.shift .shl .u32 1 .i64 (i : Int) = pure (.int .u32 (z : Int)) := by
  subst hz
  have h0 : ¬ ((i : Int) < 0) := by omega
  have h2 : min (i : Int).toNat IntKind.u32.bits = i := by
    have : IntKind.u32.bits = 32 := rfl
    rw [this]; omega
  have hp : 2 ^ i < 2 ^ 32 := Nat.pow_lt_pow_right (by omega) hi
  have e : (1 : Int) * 2 ^ i = ((2 ^ i : Nat) : Int) := by simp
  have h1 : IntKind.u32.wrap ((1 : Int) * 2 ^ i) = ((2 ^ i : Nat) : Int) := by
    rw [IntKind.wrap_u32, e]
    generalize 2 ^ i = z at hp
    omega
  unfold Op.shift
  simp only [h0, if_false, h2, h1]
section
variable {P : Program} {w : World} {a : Act} {o : Oper} {x : Operand} {t t2 : TypeId} {i z : Nat}
theorem run_shl (hop : o.op = .binOp .shl t (.const (.int .u32 1)) x t2) (hx : a.eval x = .int .i64 i) (hi : i < 32) (hz : 2 ^ i = z) : (execOp a.eval o).run P w = .ok (.value (.int .u32 (z : Int))) w := by
  have hc : a.eval (.const (.int .u32 1)) = .int .u32 1 := rfl
  unfold execOp
  simp [hop, hx, hc, binOp, eqGuard, shl_val hi hz]
theorem ev_shl (hop : o.op = .binOp .shl t (.const (.int .u32 1)) x t2) (hx : a.eval x = .int .i64 i) (hi : i < 32) (hz : 2 ^ i = z) : (execOp a.eval o).events P w #[] = #[] := by
  have hc : a.eval (.const (.int .u32 1)) = .int .u32 1 := rfl
  unfold execOp
  simp [hop, hx, hc, binOp, eqGuard, shl_val hi hz]
end

set_option maxRecDepth 100000 in
set_option maxHeartbeats 4000000 in
/-- From behind the look or the addition: the deferred Done. -/
theorem tailW {S : Nat → Prop} {B0 bs i : Nat} {w0 w : World} (T : Array Value) (hF : Kw B0 i w0 w) :
    Goes Try.prog false (RW 93 (B0 + 2) (B0 + 3 + i) 1 (B0 + 1) 0) (DWs (B0 + 2) NoOwn (RdW S B0 bs i) (B0 + 3 + i) 1 1) (AtR0 Try.prog 93 (B0 + 2) (B0 + 3 + i) 1 (B0 + 1) 1 (.int .i64 i)) 25
      (G (bW.at ⟨T, [dcall 54 #[.pointer (some ⟨B0 + 2, 0, none⟩)]]⟩ []) [bot]) w := by
  u_c stepG_end Kw.rely hF
  g_unwB Kw.rely hF Try.func54 (nm_done link) Try.f54
  have hA := @doneN _ link Try.prog wgLib NoOwn (RdW S B0 bs i) (B0 + 2) (B0 + 3 + i) 1 (B0 + 1) 1 (.int .i64 i)
  simp only [body_done, doneFn, Option.getD_some] at hA
  exact hA rfl (quitsTail _) _ hF.kn

set_option maxRecDepth 100000 in
set_option maxHeartbeats 4000000 in
theorem worksW {S : Nat → Prop} {B0 bs i : Nat} {w0 : World} {lf : FuncId} {first cap : Array Value} {nf : Nat} {y : Bool} {bit : Nat → Nat} (hS : ∀ b, S b → b < B0) (hl : w0.cell? ⟨B0, 0, none⟩ = some (.func (.func lf) first cap))
    (hlook : ∀ w, (∀ b k x, b ≤ B0 → w0.cell? ⟨b, k, none⟩ = some x → w.cell? ⟨b, k, none⟩ = some x) → CallsC Try.prog false (RWk 93 B0 i) (DWk S B0 bs i) lf (first ++ #[.int .i64 i] ++ cap) nf w (fun r w' => r = .bool y ∧ RWk 93 B0 i w w'))
    (hi : i < 32) (hbit : y = true → bit i = 2 ^ i) : ∃ m0, ∀ w, Kw B0 i w0 w → WkS Try.prog 93 86 S B0 bs bit i (!y) 7 m0 0 (born Try.prog (callW B0 i)) w := by
  unfold RWk DWk at hlook
  cases y with
  | false =>
    refine ⟨_, fun w hF => .go (.r0 (m := 40 + nf + 3 + 9) ?_)⟩
    refine Goes.step rfl fun w₁ h₁ => ?_
    replace hF := hF.rely h₁
    clear h₁
    rw [born_step]
    refine ⟨by u_nil, ?_⟩
    simp only [bodyW, Try.f53, Option.getD_some]
    u_c stepG_seq Kw.rely hF
    u_reg Kw.rely hF
    u_defer Kw.rely hF
    u_c stepG_region_end Kw.rely hF
    u_c stepG_seq Kw.rely hF
    u_reg Kw.rely hF
    u_in Kw.rely hF
    refine goes_oper_k rfl rfl (by decide) (fun K hK => ?_)
    have h1 := hF.look hl
    have h2 := hF.own
    go_simp
    refine hK _ _ ⟨⟨AsideCell.refl _ _ _ _, fun e he => ?_⟩, ?_⟩
    · have hm := mem_listed he
      simp [go_sem, *] at hm
      subst hm
      exact evW_rd hS _ _ (by first | exact .inr rfl | exact .inl ⟨Nat.le_refl _, fun hs => Nat.lt_irrefl _ (hS _ hs)⟩)
    clear hK K h1 h2
    u_in Kw.rely hF
    refine goes_oper_k rfl rfl (by decide) (fun K hK => ?_)
    have h1 := hF.look hl
    have h2 := hF.own
    go_simp
    refine hK _ _ ⟨⟨AsideCell.refl _ _ _ _, fun e he => ?_⟩, ?_⟩
    · have hm := mem_listed he
      simp [go_sem, *] at hm
      subst hm
      exact evW_rd hS _ _ (by first | exact .inr rfl | exact .inl ⟨Nat.le_refl _, fun hs => Nat.lt_irrefl _ (hS _ hs)⟩)
    clear hK K h1 h2
    try walk_nrm
    refine Goes.callV (m := 40) termsW rfl rfl (by decide) rfl rfl (by simp [Act.eval]) (hlook _ hF.low) ?_
    intro r w2 hr
    obtain ⟨rfl, hr⟩ := hr
    replace hF := hF.rely hr
    clear hr
    try walk_nrm
    u_c stepG_region_end Kw.rely hF
    u_cond false Kw.rely hF
    u_c stepG_skip Kw.rely hF
    exact Goes.mono (tailW _ hF) (by omega)
  | true =>
    refine ⟨_, fun w hF => .pre (m := 40 + nf + 3 + 9) (M2 := 60) ?_⟩
    unfold RWk DWk
    obtain ⟨z, hz⟩ : ∃ z : Nat, 2 ^ i = z := ⟨_, rfl⟩
    replace hbit : bit i = z := (hbit rfl).trans hz
    refine Goes.step rfl fun w₁ h₁ => ?_
    replace hF := hF.rely h₁
    clear h₁
    rw [born_step]
    refine ⟨by u_nil, ?_⟩
    simp only [bodyW, Try.f53, Option.getD_some]
    u_c stepG_seq Kw.rely hF
    u_reg Kw.rely hF
    u_defer Kw.rely hF
    u_c stepG_region_end Kw.rely hF
    u_c stepG_seq Kw.rely hF
    u_reg Kw.rely hF
    u_in Kw.rely hF
    refine goes_oper_k rfl rfl (by decide) (fun K hK => ?_)
    have h1 := hF.look hl
    have h2 := hF.own
    go_simp
    refine hK _ _ ⟨⟨AsideCell.refl _ _ _ _, fun e he => ?_⟩, ?_⟩
    · have hm := mem_listed he
      simp [go_sem, *] at hm
      subst hm
      exact evW_rd hS _ _ (by first | exact .inr rfl | exact .inl ⟨Nat.le_refl _, fun hs => Nat.lt_irrefl _ (hS _ hs)⟩)
    clear hK K h1 h2
    u_in Kw.rely hF
    refine goes_oper_k rfl rfl (by decide) (fun K hK => ?_)
    have h1 := hF.look hl
    have h2 := hF.own
    go_simp
    refine hK _ _ ⟨⟨AsideCell.refl _ _ _ _, fun e he => ?_⟩, ?_⟩
    · have hm := mem_listed he
      simp [go_sem, *] at hm
      subst hm
      exact evW_rd hS _ _ (by first | exact .inr rfl | exact .inl ⟨Nat.le_refl _, fun hs => Nat.lt_irrefl _ (hS _ hs)⟩)
    clear hK K h1 h2
    try walk_nrm
    refine Goes.callV (m := 40) termsW rfl rfl (by decide) rfl rfl (by simp [Act.eval]) (hlook _ hF.low) ?_
    intro r w2 hr
    obtain ⟨rfl, hr⟩ := hr
    replace hF := hF.rely hr
    clear hr
    try walk_nrm
    u_c stepG_region_end Kw.rely hF
    u_cond true Kw.rely hF
    u_reg Kw.rely hF
    u_in Kw.rely hF
    refine goes_oper_k rfl rfl (by decide) (fun K hK => ?_)
    have h1 := hF.look hl
    have h2 := hF.own
    go_simp
    refine hK _ _ ⟨⟨AsideCell.refl _ _ _ _, fun e he => ?_⟩, ?_⟩
    · have hm := mem_listed he
      simp [go_sem, *] at hm
      subst hm
      exact evW_rd hS _ _ (by first | exact .inr rfl | exact .inl ⟨Nat.le_refl _, fun hs => Nat.lt_irrefl _ (hS _ hs)⟩)
    clear hK K h1 h2
    try walk_nrm
    u_in Kw.rely hF
    rw [stepG_value rfl rfl (by decide) (run_shl rfl rfl hi hz), listed_nil (ev_shl rfl rfl hi hz)]
    simp only [goes_go]
    refine ⟨by u_nil, ?_⟩
    walk_nrm
    u_call Try.func55 nm_add32 Try.f55 Kw.rely hF
    repeat (first | u_op Kw.rely hF | u_c stepG_region_end Kw.rely hF | u_reg Kw.rely hF | u_c stepG_seq Kw.rely hF)
    refine Goes.stop (fun w₁ h₁ => ?_)
    replace hF := hF.rely h₁
    clear h₁
    refine ⟨rfl, fun N hN hn => ?_⟩
    rw [hbit] at hN ⊢
    have e0 : IntKind.u32.wrap ((N : Int) + (z : Int)) = ((N + z : Nat) : Int) := by rw [IntKind.wrap_u32]; omega
    have hc : w₁.cell? (nA B0) = some (.int .u32 N) := by unfold World.cell? nA; rw [hn]; rfl
    have hfz : w₁.frozen? (nA B0) = false := by unfold World.frozen? nA; rw [hn]; rfl
    refine ⟨_, (stepG_add_atomic rfl rfl (by decide) rfl Try.func75 x_add32_n x_add32_b x_add32_x .u32 x_add32_f rfl rfl hc hfz).trans (by rw [e0]; rfl), ?_⟩
    generalize ((N + z : Nat) : Int) = u
    replace hF : Kw B0 i w0 (w₁.setCell (nA B0) (.int .u32 u)) := by
      have hA := aside_setCell w₁ (nA B0) (.int .u32 u)
      exact ⟨fun b k x hb hx => (cell_of_block (hA.block b (by simp [nA]; omega)) k).trans (hF.low b k x hb hx), (cell_of_block (hA.block (B0 + 3 + i) (by simp [nA]; omega)) 0).trans hF.own, let ⟨st, sm, h⟩ := hF.live; ⟨st, sm, h.of_block (hA.block (B0 + 2) (by simp [nA]))⟩⟩
    clear hn hc hfz e0
    unfold RWk DWk R0k
    walk_nrm
    repeat (first | u_op Kw.rely hF | u_c stepG_region_end Kw.rely hF | u_c stepG_ret' Kw.rely hF | u_leave1 Try.func55 Kw.rely hF)
    exact Goes.mono (tailW _ hF) (by omega)
end Go.Proofs.Ytdafpnpfcmgfcab
