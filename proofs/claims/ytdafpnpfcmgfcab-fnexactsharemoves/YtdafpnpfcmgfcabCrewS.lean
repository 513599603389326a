/- placesWhere: the starter's walks. -/
import Derived.Test.YtdafpnpfcmgfcabCrewW
import Derived.Test.YtdafpnpfcmgfcabCrew7
import Derived.Test.YtdafpnpfcmgfcabCrew8
import Derived.Test.YtdafpnpfcmgfcabCrew17
namespace Go.Proofs.Ytdafpnpfcmgfcab
open Go Go.Conc Go.ConcN Go.RowKit Go.Conc.Lib Go.ConcR.Gen Go.ConcN.Gen
open Go.ConcR (KK wgBlock WgAt stA smA rd wr mk Payload Aside2 DC0 ofEvent_cell)

noncomputable def bodyP : Code := Try.f45.body.getD .skip
noncomputable def loopP : Code := match bodyP with
  | .seq _ (.seq _ (.seq _ (.seq (.seq _ (.block _ (.loop c))) _))) => c
  | _ => .skip
noncomputable def restP : Code := match bodyP with
  | .seq _ (.seq _ (.seq _ (.seq (.seq _ (.block _ (.loop _))) c))) => c
  | _ => .skip
/-- The slots at the loop's head. -/
def slotsP (B0 cnt : Nat) (lookv : Value) (j : Nat) (x7 x10 x11 x12 x13 x14 : Value) : Array Value :=
  #[.int .i64 cnt, lookv, undef, .pointer (some ⟨B0, 0, none⟩), .int .u32 0, .pointer (some ⟨B0 + 1, 0, none⟩), .pointer (some ⟨B0 + 2, 0, none⟩), x7, .int .i64 cnt, .int .i64 j, x10, x11, x12, x13, x14, undef, undef]
/-- It stands at the loop's head, j workers started. -/
def HeadP (B0 cnt : Nat) (lookv : Value) (cs : List Frame) (j : Nat) (g : Goroutine) (_ : World) : Prop :=
  ∃ x7 x10 x11 x12 x13 x14, g = G ((base 45).at ⟨slotsP B0 cnt lookv j x7 x10 x11 x12 x13 x14, []⟩ [.code loopP, .inLoop loopP, .inBlock 0, .code restP]) cs

set_option maxRecDepth 100000 in
set_option maxHeartbeats 2000000 in
theorem enterP {B0 cnt : Nat} {lf : FuncId} {first cap : Array Value} {cs : List Frame} (w : World) :
    Goes Try.prog true RT DC0 (AtNewB Try.prog B0 (.cells #[.func (.func lf) first cap] 47) (AtNewB Try.prog (B0 + 1) (.cells #[.int .u32 0] 86) (AtNewB Try.prog (B0 + 2) (wgBlock 93 0 0) (HeadP B0 cnt (.func (.func lf) first cap) cs 0)))) 10
      (G ((base 45).at ⟨#[.int .i64 cnt, .func (.func lf) first cap] ++ Array.replicate 15 undef, []⟩ [.code bodyP]) cs) w := by
  have hF : True := trivial
  simp only [bodyP, Try.f45, Option.getD_some]
  walk_nrm
  u_c stepG_seq tt_rely hF
  u_reg tt_rely hF
  refine Goes.stop (fun w₁ _ => ⟨rfl, fun hN => ?_⟩)
  subst hN
  refine ⟨_, (stepG_value rfl rfl (by decide) (w' := w₁.alloc (.cells #[.func (.func lf) first cap] 47)) (v := .pointer (some ⟨w₁.heap.size, 0, none⟩)) (by go_simp)).trans (by rw [listed_nil (by simp [go_sem])]), 20, ?_⟩
  generalize w₁.heap.size = B0
  walk_nrm
  u_op tt_rely hF
  u_c stepG_region_end tt_rely hF
  u_c stepG_seq tt_rely hF
  u_reg tt_rely hF
  refine Goes.stop (fun w₁ _ => ⟨rfl, fun hN => ?_⟩)
  refine ⟨_, (stepG_value rfl rfl (by decide) (w' := w₁.alloc (.cells #[.int .u32 0] 86)) (v := .pointer (some ⟨B0 + 1, 0, none⟩)) (by go_simp)).trans (by rw [listed_nil (by simp [go_sem])]), 20, ?_⟩
  clear hN
  walk_nrm
  u_c stepG_region_end tt_rely hF
  u_c stepG_seq tt_rely hF
  u_reg tt_rely hF
  refine Goes.stop (fun w₁ _ => ⟨rfl, fun hN => ?_⟩)
  refine ⟨_, (stepG_value rfl rfl (by decide) (w' := w₁.alloc (wgBlock 93 0 0)) (v := .pointer (some ⟨B0 + 2, 0, none⟩)) (by go_simp; rfl)).trans (by rw [listed_nil (by simp [go_sem])]), 20, ?_⟩
  clear hN
  walk_nrm
  u_c stepG_region_end tt_rely hF
  u_c stepG_seq tt_rely hF
  u_c stepG_seq tt_rely hF
  u_reg tt_rely hF
  u_op tt_rely hF
  u_op tt_rely hF
  u_c stepG_region_end tt_rely hF
  u_c stepG_block tt_rely hF
  u_c stepG_loop tt_rely hF
  exact Goes.stop (fun w₁ _ => ⟨_, _, _, _, _, _, rfl⟩)

theorem loudP : (Try.prog.funcs[(base 45).fn]?).any (·.norace) = false := by kernel_rfl
section
variable {main : Bool} {b : Frame} {a : Act} {kk : List Item} {cs : List Frame} {w : World} {ops : Array Oper} {i : Nat} {rest : List Nat} {o : Oper}
/-- A plain store of an int, as one step. -/
theorem stepG_storeI {x y : Operand} (ho : ops[i]? = some o) (hw : Region.wanted o (yielded ops a.tmps) = true) (hk : b.kind ≠ .early) (hop : o.op = .store 3 x y)
    {ad : Addr} {v : Int} {u : Value} (hx : a.eval x = .pointer (some ad)) (hy : a.eval y = .int .i64 v) (hc : w.cell? ad = some u) (hz : w.frozen? ad = false) (hq : (Try.prog.funcs[b.fn]?).any (·.norace) = false) :
    stepG Try.prog main (G (b.at a (.inRegion ops (i :: rest) :: kk)) cs) w = .go (G (b.at (a.put o.dst undef) (.inRegion ops rest :: kk)) cs) (w.setCell ad (.int .i64 v)) #[⟨.cell ad, true, false⟩] := by
  have hr : (execOp a.eval o).run Try.prog w = .ok .skip (w.setCell ad (.int .i64 v)) := by
    unfold execOp
    simp only [hop, hx, hy]
    simp [go_sem, stored, hc, hz]
  have he : (execOp a.eval o).events Try.prog w #[] = #[⟨.cell ad, true, false⟩] := by
    unfold execOp
    simp only [hop, hx, hy]
    simp [go_sem, storedEv, hc, hz]
  rw [stepG_none ho hw hk hr]
  unfold listed
  rw [he, seen_eq hq (by simp)]
end

set_option maxRecDepth 100000 in
set_option maxHeartbeats 400000 in
theorem roundP {B0 cnt j : Nat} {lf : FuncId} {first cap : Array Value} {cs : List Frame} (hj : j < cnt) (hcnt : cnt < 2147483648) {g : Goroutine} {w : World} (hF : WgLive 93 (B0 + 2) w) (h : HeadP B0 cnt (.func (.func lf) first cap) cs j g w) :
    ∃ k, Goes Try.prog true (RS 93 (B0 + 2)) DC0 (AtNew Try.prog 93 B0 (B0 + 3 + j) (.cells #[.int .i64 0] 3) (AtStore Try.prog 93 B0 (B0 + 3 + j) (.int .i64 j)
      (AtWord Try.prog 93 (B0 + 2) .disable (AtPlus Try.prog 93 (B0 + 2) (fun g w => ∃ k, Goes Try.prog true (RS 93 (B0 + 2)) DC0 (AtSpawn Try.prog 93 B0 (born Try.prog (callW B0 j)) (HeadP B0 cnt (.func (.func lf) first cap) cs (j + 1))) k g w))))) k g w := by
  obtain ⟨x7, x10, x11, x12, x13, x14, rfl⟩ := h
  have hlt : decide ((j : Int) < (cnt : Int)) = true := decide_eq_true (by omega)
  have hlt2 : (j : Int) < (cnt : Int) := by omega
  have hwj : IntKind.i64.wrap ((j : Int) + 1) = ((j + 1 : Nat) : Int) := by rw [IntKind.wrap_i64]; omega
  refine ⟨30, ?_⟩
  simp only [slotsP, loopP, bodyP, Try.f45, Option.getD_some]
  u_c stepG_seq rs_rely hF
  u_reg rs_rely hF
  u_op rs_rely hF
  u_c stepG_region_end rs_rely hF
  u_c stepG_seq rs_rely hF
  u_cnd true rs_rely hF
  u_c stepG_skip rs_rely hF
  u_c stepG_seq rs_rely hF
  u_c stepG_block rs_rely hF
  u_c stepG_seq rs_rely hF
  u_reg rs_rely hF
  u_op rs_rely hF
  refine Goes.stop (fun w₁ h₁ => ⟨rfl, fun hN => ?_⟩)
  replace hF := rs_rely hF h₁
  clear h₁
  refine ⟨_, (stepG_value rfl rfl (by decide) (w' := w₁.alloc (.cells #[.int .i64 0] 3)) (v := .pointer (some ⟨B0 + 3 + j, 0, none⟩)) (by go_simp)).trans (by rw [listed_nil (by simp [go_sem])]), 20, ?_⟩
  replace hF : WgLive 93 (B0 + 2) (w₁.alloc (.cells #[.int .i64 0] 3)) := by
    obtain ⟨st, sm, h⟩ := hF
    exact ⟨st, sm, h.of_block (get_push (by omega))⟩
  clear hN
  walk_nrm
  refine Goes.stop (fun w₂ h₂ => ⟨rfl, fun ⟨u, tt, hu⟩ => ?_⟩)
  replace hF := rs_rely hF h₂
  clear h₂
  have hc : w₂.cell? ⟨B0 + 3 + j, 0, none⟩ = some u := by unfold World.cell?; rw [hu]; rfl
  have hz : w₂.frozen? ⟨B0 + 3 + j, 0, none⟩ = false := by unfold World.frozen?; rw [hu]; rfl
  refine ⟨_, stepG_storeI rfl rfl (by decide) rfl rfl rfl hc hz loudP, 30, ?_⟩
  replace hF : WgLive 93 (B0 + 2) (w₂.setCell ⟨B0 + 3 + j, 0, none⟩ (.int .i64 j)) := by
    obtain ⟨st, sm, h⟩ := hF
    exact ⟨st, sm, h.of_block ((aside_setCell w₂ ⟨B0 + 3 + j, 0, none⟩ (.int .i64 j)).block _ (by simp; omega))⟩
  clear hc hz hu
  walk_nrm
  u_c stepG_region_end rs_rely hF
  u_c stepG_seq rs_rely hF
  u_reg rs_rely hF
  u_in rs_rely hF
  refine goes_call rfl rfl (by decide) rfl wgLib.f_add (nm_add link) rfl ⟨by u_nil, ?_⟩
  refine Goes.mono (add_at wgLib rfl (slots2 rfl) rfl rfl rfl hF (fun w => ?_)) (by decide)
  have hF : True := trivial
  refine ⟨20, ?_⟩
  walk_nrm
  u_c stepG_region_end any_rely hF
  u_reg any_rely hF
  u_op any_rely hF
  refine Goes.stop (fun w₃ _ => ⟨rfl, _, (stepG_spawn (d := callW B0 j) (w' := w₃) rfl rfl (by decide) (by simp [go_sem, callW, Deferred.ofValue, resolve]) rfl).trans (by rw [listed_nil (by simp [go_sem, Deferred.ofValue, resolve])]), 20, ?_⟩)
  walk_nrm
  u_c stepG_region_end any_rely hF
  u_c stepG_inBlock any_rely hF
  u_reg any_rely hF
  u_op any_rely hF
  u_op any_rely hF
  u_c stepG_region_end any_rely hF
  u_c stepG_inLoop any_rely hF
  exact Goes.stop (fun w₄ _ => ⟨_, _, _, _, _, _, rfl⟩)

theorem x_load32_n : (Try.f81.name == "runtime.NumGoroutine") = false := by kernel_rfl
theorem x_load32_b : Try.f81.body.isNone = true := by kernel_rfl
theorem x_load32_x : Extern.findNext Try.f81 = none := by kernel_rfl
theorem x_load32_f : Extern.find Try.f81 = some (Extern.Atomic.loadT (.int .u32)) := by kernel_rfl
theorem nm_load32 : (Try.f57.name == "runtime.NumGoroutine") = false := by kernel_rfl

section
variable {b₁ : Frame} {a₁ : Act} {ops₁ : Array Oper} {i₁ : Nat} {rest₁ : List Nat} {k₁ : List Item} {cs₁ : List Frame}
/-- From here on only the look at the number, and the return, are left. -/
def Ends45 (B0 : Nat) (Fin : Nat → Goroutine → World → Prop) (g : Goroutine) (w : World) : Prop :=
  ∃ k, Goes Try.prog true (RS 93 (B0 + 2)) DC0 (AtRead Try.prog 93 86 B0 Fin) k g w
/-- It stands at the head of Wait's loop. -/
def AnchP (B0 : Nat) (Fin : Nat → Goroutine → World → Prop) (cs : List Frame) (g : Goroutine) (w : World) : Prop :=
  ∃ a₀ ops₀ k₀, (∀ w, Ends45 B0 Fin (G ((base 45).at (a₀.put ((ops₀[0]?).bind (·.dst)) (.tuple #[])) (.inRegion ops₀ [] :: k₀)) cs) w) ∧ AnchWN link (fun _ => True) (B0 + 2) ((base 45).at a₀ (.inRegion ops₀ (0 :: []) :: k₀)) cs g w

theorem waitP {B0 : Nat} {Fin : Nat → Goroutine → World → Prop} {cs : List Frame} (g : Goroutine) (w : World) (h : AnchP B0 Fin cs g w) :
    ∃ k, Goes Try.prog true (RS 93 (B0 + 2)) DC0 (AtSee Try.prog 93 (B0 + 2) (Ends45 B0 Fin) (AnchP B0 Fin cs)) k g w := by
  obtain ⟨a₀, ops₀, k₀, h1, h2⟩ := h
  obtain ⟨k, hk⟩ := wait_round wgLib g w h2
  exact ⟨k, goes_imp (fun _ _ x => AtSee.mono (fun g w e => by subst e; exact h1 w) (fun g w e => ⟨a₀, ops₀, k₀, h1, e⟩) x) k g w hk⟩

set_option maxRecDepth 100000 in
set_option maxHeartbeats 400000 in
theorem leaveP {B0 cnt : Nat} {lf : FuncId} {first cap : Array Value} {g : Goroutine} {w : World} (hF : WgLive 93 (B0 + 2) w) (h : HeadP B0 cnt (.func (.func lf) first cap) (b₁.at a₁ (.inRegion ops₁ (i₁ :: rest₁) :: k₁) :: cs₁) cnt g w) :
    ∃ k, Goes Try.prog true (RS 93 (B0 + 2)) DC0 (AtWord Try.prog 93 (B0 + 2) .disable (AnchP B0 (fun N g _ => g = G (b₁.at (a₁.put ((ops₁[i₁]?).bind (·.dst)) (.int .u32 N)) (.inRegion ops₁ rest₁ :: k₁)) cs₁) (b₁.at a₁ (.inRegion ops₁ (i₁ :: rest₁) :: k₁) :: cs₁))) k g w := by
  obtain ⟨x7, x10, x11, x12, x13, x14, rfl⟩ := h
  refine ⟨30, ?_⟩
  simp only [slotsP, loopP, restP, bodyP, Try.f45, Option.getD_some]
  u_c stepG_seq rs_rely hF
  u_reg rs_rely hF
  u_op rs_rely hF
  u_c stepG_region_end rs_rely hF
  u_c stepG_seq rs_rely hF
  u_cnd false rs_rely hF
  u_exit rs_rely hF
  u_c stepG_seq rs_rely hF
  u_reg rs_rely hF
  u_in rs_rely hF
  refine goes_call rfl rfl (by decide) rfl wgLib.f_wait (nm_wait link) rfl ⟨by u_nil, ?_⟩
  refine Goes.mono (goes_imp (fun _ _ h => h.mono (fun _ _ h => ⟨_, _, _, ?_, h⟩)) _ _ _ (wait_at wgLib rfl (slots1 rfl) rfl rfl hF)) (by decide)
  intro w
  have hF : True := trivial
  refine ⟨30, ?_⟩
  walk_nrm
  u_c stepG_region_end any_rely hF
  u_c stepG_seq any_rely hF
  u_reg any_rely hF
  u_call Try.func57 nm_load32 Try.f57 any_rely hF
  u_c stepG_seq any_rely hF
  u_reg any_rely hF
  u_op any_rely hF
  u_c stepG_region_end any_rely hF
  u_c stepG_seq any_rely hF
  u_reg any_rely hF
  u_op any_rely hF
  u_op any_rely hF
  u_op any_rely hF
  refine Goes.stop (fun w₃ _ => ⟨rfl, fun N hN => ?_⟩)
  have hc : w₃.cell? (nA B0) = some (.int .u32 N) := by unfold World.cell? nA; rw [hN]; rfl
  refine ⟨_, stepG_load_atomic (v := N) rfl rfl (by decide) rfl Try.func81 x_load32_n x_load32_b x_load32_x .u32 x_load32_f rfl hc, 30, ?_⟩
  clear hc hN
  walk_nrm
  u_op any_rely hF
  u_c stepG_region_end any_rely hF
  u_c stepG_ret' any_rely hF
  u_leave1 Try.func57 any_rely hF
  u_op any_rely hF
  u_c stepG_region_end any_rely hF
  u_c stepG_ret' any_rely hF
  u_leave1 Try.func45 any_rely hF
  exact Goes.stop (fun w₄ _ => rfl)
end
end Go.Proofs.Ytdafpnpfcmgfcab
