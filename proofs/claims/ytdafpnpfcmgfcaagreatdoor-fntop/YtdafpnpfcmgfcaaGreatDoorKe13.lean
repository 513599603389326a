/- The group's Wait, walked in company. Add and Wait, as a caller meets them. placesWhere: the starter's walks. -/
import Derived.Test.YtdafpnpfcmgfcaaGreatDoorKe09
import Derived.Conc.WgGenN3
import Derived.Conc.WgWords
import Derived.Test.YtdafpnpfcmgfcaaGreatDoorKe12
import Derived.Test.YtdafpnpfcmgfcaaGreatDoorKe11
namespace Go.Proofs.YtdafpnpfcmgfcaaGreatDoor
section
open Go Go.Conc Go.ConcN Go.RowKit Go.Conc.Lib Go.ConcR.Gen Go.ConcN.Gen
open Go.ConcR (KK wgBlock WgAt stA smA rd wr mk Payload DC0)
section
variable {L : WgLink} {Wg : Nat} {b₀ : Frame} {a₀ : Act} {ops₀ : Array Oper} {i₀ : Nat} {rest₀ : List Nat} {k₀ : List Item} {cs : List Frame}
set_option maxRecDepth 100000 in
theorem wait_in {P : Program} (H : WgLib P L) (w : World) (hF : WgLive L.tWg Wg w) :
  Goes P true (RS L.tWg Wg) DC0 (AtWord P L.tWg Wg .disable (AnchWN L (fun _ => True) Wg (b₀.at a₀ (.inRegion ops₀ (i₀ :: rest₀) :: k₀)) cs)) 3
   (G ((base L.wait).at ⟨#[.pointer (some ⟨Wg, 0, none⟩)] ++ Array.replicate 83 undef, []⟩ [.code (body_wait L)]) (b₀.at a₀ (.inRegion ops₀ (i₀ :: rest₀) :: k₀) :: cs)) w := by
 lib_facts
 walk_nrm
 simp only [body_wait, waitFn, Option.getD_some]
 u_c stepG_seq rs_rely hF
 u_cond true rs_rely hF
 u_reg rs_rely hF
 refine Goes.stop (fun w₁ h₁ => ?_)
 replace hF := rs_rely hF h₁
 clear h₁
 refine ⟨rfl, _, stepG_mark0 .disable (by simp) rfl rfl (by k_ne) rfl H.f_disable (x_disable_n L) (x_disable_b L) (x_disable_x L) (x_disable_f L), 3, ?_⟩
 walk_nrm
 u_c stepG_region_end rs_rely hF
 u_c stepG_block rs_rely hF
 u_c stepG_loop rs_rely hF
 exact Goes.stop (fun w₂ h₂ => ⟨_, rfl, by simp, by simp, trivial, rs_rely hF h₂⟩)
set_option maxRecDepth 100000 in
set_option maxHeartbeats 16000000 in
theorem wait_round {P : Program} (H : WgLib P L) (g : Goroutine) (w : World) (h : AnchWN L (fun _ => True) Wg (b₀.at a₀ (.inRegion ops₀ (i₀ :: rest₀) :: k₀)) cs g w) :
  ∃ m, Goes P true (RS L.tWg Wg) DC0 (AtSee P L.tWg Wg (fun g _ => g = G (b₀.at (a₀.put ((ops₀[i₀]?).bind (·.dst)) (.tuple #[])) (.inRegion ops₀ rest₀ :: k₀)) cs) (AnchWN L (fun _ => True) Wg (b₀.at a₀ (.inRegion ops₀ (i₀ :: rest₀) :: k₀)) cs)) m g w := by
 lib_facts
 obtain ⟨T, rfl, hT84, t0, _, hF⟩ := h
 obtain ⟨v0, v1, v2, v3, v4, v5, v6, v7, v8, v9, v10, v11, v12, v13, v14, v15, v16, v17, v18, v19, v20, v21, v22, v23, v24, v25, v26, v27, v28, v29, v30, v31, v32, v33, v34, v35, v36, v37, v38, v39, v40, v41, v42, v43, v44, v45, v46, v47, v48, v49, v50, v51, v52, v53, v54, v55, v56, v57, v58, v59, v60, v61, v62, v63, v64, v65, v66, v67, v68, v69, v70, v71, v72, v73, v74, v75, v76, v77, v78, v79, v80, v81, v82, v83, rfl⟩ := array84 T hT84
 simp only [List.getElem?_toArray, List.getElem?_cons_zero, Option.some.injEq] at t0
 subst t0
 refine ⟨40, ?_⟩
 simp only [L7, body_wait, waitFn, Option.getD_some]
 u_c stepG_block rs_rely hF
 u_c stepG_seq rs_rely hF
 u_reg rs_rely hF
 u_op rs_rely hF
 u_op rs_rely hF
 u_op rs_rely hF
 u_call H.f_uLoad (nm_uLoad L) uLoadFn rs_rely hF
 u_c stepG_seq rs_rely hF
 u_reg rs_rely hF
 u_op rs_rely hF
 u_c stepG_region_end rs_rely hF
 u_c stepG_seq rs_rely hF
 u_reg rs_rely hF
 u_op rs_rely hF
 u_op rs_rely hF
 u_op rs_rely hF
 refine Goes.stop (fun w₁ h₁ => ?_)
 replace hF := rs_rely hF h₁
 clear h₁
 refine ⟨rfl, fun v hv hw => ?_⟩
 rcases Nat.eq_zero_or_pos v with rfl | hvp
 ·replace hw : WgAt L.tWg Wg w₁ 0 0 := by simpa using hw
  refine ⟨_, stepG_load_atomic (v := 0) rfl rfl (by k_ne) rfl H.f_loadU64 (x_loadU64_n L) (x_loadU64_b L) (x_loadU64_x L) .u64 (x_loadU64_f L) rfl hw.cellSt, fun _ => ⟨60, ?_⟩, fun h => absurd rfl h⟩
  clear hw
  walk_nrm
  u_op rs_rely hF
  u_c stepG_region_end rs_rely hF
  u_c stepG_ret' rs_rely hF
  u_leave1 H.f_uLoad rs_rely hF
  u_op rs_rely hF
  u_c stepG_region_end rs_rely hF
  u_c stepG_seq rs_rely hF
  u_reg rs_rely hF
  u_op rs_rely hF
  u_op rs_rely hF
  u_op rs_rely hF
  u_op rs_rely hF
  u_c stepG_region_end rs_rely hF
  u_c stepG_seq rs_rely hF
  u_reg rs_rely hF
  u_op rs_rely hF
  u_op rs_rely hF
  u_op rs_rely hF
  u_op rs_rely hF
  u_c stepG_region_end rs_rely hF
  u_c stepG_seq rs_rely hF
  u_c stepG_seq rs_rely hF
  u_reg rs_rely hF
  u_op rs_rely hF
  u_op rs_rely hF
  u_c stepG_region_end rs_rely hF
  u_cond true rs_rely hF
  u_c stepG_seq rs_rely hF
  u_cond true rs_rely hF
  u_c stepG_seq rs_rely hF
  u_reg rs_rely hF
  refine Goes.stop (fun w5 h5 => ?_)
  replace hF := rs_rely hF h5
  clear h5
  refine ⟨rfl, _, stepG_mark0 .enable (by simp) rfl rfl (by k_ne) rfl H.f_enable (x_enable_n L) (x_enable_b L) (x_enable_x L) (x_enable_f L), 30, ?_⟩
  walk_nrm
  u_c stepG_region_end rs_rely hF
  u_reg rs_rely hF
  u_op rs_rely hF
  u_conv H.underlying_tWgP H.room_tWg (WgLive.cell0 hF).choose_spec rs_rely hF
  refine Goes.stop (fun w6 h6 => ?_)
  replace hF := rs_rely hF h6
  clear h6
  refine ⟨rfl, _, stepG_markAt .acquire (by simp) rfl rfl (by k_ne) rfl H.f_acquire (x_acquire_n L) (x_acquire_b L) (x_acquire_x L) (x_acquire_f L) (by simp [Act.eval, stA]), 40, ?_⟩
  walk_nrm
  u_c stepG_region_end rs_rely hF
  u_c stepG_seq rs_rely hF
  u_c stepG_seq rs_rely hF
  u_reg rs_rely hF
  u_op rs_rely hF
  u_op rs_rely hF
  u_op rs_rely hF
  u_op rs_rely hF
  u_op rs_rely hF
  u_op rs_rely hF
  u_op rs_rely hF
  u_op rs_rely hF
  u_skip rs_rely hF
  u_skip rs_rely hF
  u_op rs_rely hF
  u_c stepG_region_end rs_rely hF
  u_cond false rs_rely hF
  u_c stepG_skip rs_rely hF
  u_c stepG_ret' rs_rely hF
  u_leave0 H.f_wait rs_rely hF
  exact Goes.stop (fun _ _ => rfl)
 ·obtain ⟨S, hS⟩ : ∃ S : Int, (v : Int) * KK = S := ⟨_, rfl⟩
  have a1 : S / 4294967296 = (v : Int) := by rw [← hS]; simp only [KK]; omega
  have b1 : bits .and .u64 S 2147483648 = 0 := by
   have := st_flag v 0 (by omega) (by omega)
   rw [← hS]; simpa [KK] using this
  have b2 : bits .and .u64 S 2147483647 = 0 := by
   have := st_waiters v 0 (by omega) (by omega)
   rw [← hS]; simpa [KK] using this
  have c1 : IntKind.i32.wrap (v : Int) = (v : Int) := by rw [IntKind.wrap_i32]; omega
  have c2 : IntKind.u64.wrap (S + 1) = S + 1 := by rw [IntKind.wrap_u64, ← hS]; simp only [KK]; omega
  have q5 : ((v : Int) == 0) = false := by simp; omega
  have q6 : decide ((v : Int) = 0) = false := decide_eq_false (by omega)
  have q7 : ¬ ((v : Int) = 0) := by omega
  have q8 : ¬ (v = 0) := by omega
  refine ⟨_, stepG_load_atomic (v := S) rfl rfl (by k_ne) rfl H.f_loadU64 (x_loadU64_n L) (x_loadU64_b L) (x_loadU64_x L) .u64 (x_loadU64_f L) rfl (hS ▸ hw.cellSt), fun h => absurd h (by omega), fun _ => ⟨80, ?_⟩⟩
  clear hw
  walk_nrm
  u_op rs_rely hF
  u_c stepG_region_end rs_rely hF
  u_c stepG_ret' rs_rely hF
  u_leave1 H.f_uLoad rs_rely hF
  u_op rs_rely hF
  u_c stepG_region_end rs_rely hF
  u_c stepG_seq rs_rely hF
  u_reg rs_rely hF
  u_op rs_rely hF
  u_op rs_rely hF
  u_op rs_rely hF
  u_op rs_rely hF
  u_c stepG_region_end rs_rely hF
  u_c stepG_seq rs_rely hF
  u_reg rs_rely hF
  u_op rs_rely hF
  u_op rs_rely hF
  u_op rs_rely hF
  u_op rs_rely hF
  u_c stepG_region_end rs_rely hF
  u_c stepG_seq rs_rely hF
  u_c stepG_seq rs_rely hF
  u_reg rs_rely hF
  u_op rs_rely hF
  u_op rs_rely hF
  u_c stepG_region_end rs_rely hF
  u_cond false rs_rely hF
  u_c stepG_skip rs_rely hF
  u_c stepG_seq rs_rely hF
  u_reg rs_rely hF
  u_op rs_rely hF
  u_op rs_rely hF
  u_op rs_rely hF
  u_op rs_rely hF
  u_op rs_rely hF
  u_op rs_rely hF
  u_call H.f_uCas (nm_uCas L) uCasFn rs_rely hF
  u_c stepG_seq rs_rely hF
  u_reg rs_rely hF
  u_op rs_rely hF
  u_c stepG_region_end rs_rely hF
  u_c stepG_seq rs_rely hF
  u_reg rs_rely hF
  u_op rs_rely hF
  u_op rs_rely hF
  u_op rs_rely hF
  u_op rs_rely hF
  u_op rs_rely hF
  refine Goes.stop (fun w2 h2 => ?_)
  replace hF := rs_rely hF h2
  clear h2
  refine ⟨rfl, fun v' hv' hw => ⟨fun e => ?_, fun e => ?_⟩⟩
  ·subst e
   rw [hS] at hw ⊢
   refine ⟨_, (stepG_cas_hit (v := S) (n := S + 1) rfl rfl (by k_ne) rfl H.f_casU64 (x_casU64_n L) (x_casU64_b L) (x_casU64_x L) .u64 (x_casU64_f L) rfl rfl rfl hw.cellSt (hw.thaw 0)).trans (by rfl), 90, ?_⟩
   replace hF : WgLive L.tWg Wg (w2.setCell (stA Wg) (.int .u64 (S + 1))) := ⟨_, _, hw.setSt _⟩
   clear hw
   walk_nrm
   u_op rs_rely hF
   u_c stepG_region_end rs_rely hF
   u_c stepG_ret' rs_rely hF
   u_leave1 H.f_uCas rs_rely hF
   u_c stepG_region_end rs_rely hF
   u_cond true rs_rely hF
   u_c stepG_seq rs_rely hF
   u_c stepG_seq rs_rely hF
   u_reg rs_rely hF
   u_op rs_rely hF
   u_op rs_rely hF
   u_op rs_rely hF
   u_op rs_rely hF
   u_c stepG_region_end rs_rely hF
   u_cond true rs_rely hF
   u_reg rs_rely hF
   u_op rs_rely hF
   u_op rs_rely hF
   u_op rs_rely hF
   u_conv H.underlying_tPU32 H.room_tU32 (WgLive.cell1 hF).choose_spec rs_rely hF
   refine Goes.stop (fun w3 h3 => ?_)
   replace hF := rs_rely hF h3
   clear h3
   refine ⟨rfl, _, stepG_markAt .write (by simp) rfl rfl (by k_ne) rfl H.f_raceWrite (x_raceWrite_n L) (x_raceWrite_b L) (x_raceWrite_x L) (x_raceWrite_f L) (ad := ⟨Wg, 1, none⟩) (by simp [Act.eval]), 60, ?_⟩
   walk_nrm
   u_c stepG_region_end rs_rely hF
   u_c stepG_seq rs_rely hF
   u_reg rs_rely hF
   u_op rs_rely hF
   u_c stepG_region_end rs_rely hF
   u_c stepG_seq rs_rely hF
   u_c stepG_seq rs_rely hF
   u_reg rs_rely hF
   u_op rs_rely hF
   u_op rs_rely hF
   u_op rs_rely hF
   u_op rs_rely hF
   u_skip rs_rely hF
   u_op rs_rely hF
   u_c stepG_region_end rs_rely hF
   u_cond false rs_rely hF
   u_c stepG_skip rs_rely hF
   u_c stepG_seq rs_rely hF
   u_reg rs_rely hF
   u_op rs_rely hF
   u_op rs_rely hF
   u_op rs_rely hF
   u_op rs_rely hF
   refine Goes.stop (fun w4 h4 => ?_)
   replace hF := rs_rely hF h4
   clear h4
   refine ⟨rfl, rfl, fun ⟨st, hw⟩ => stepG_semacquire_wait rfl rfl rfl H.f_semacquire (x_semacquire_n L) (x_semacquire_b L) (x_semacquire_x L) (x_semacquire_f L) (by simp [Act.eval, smA]) hw.cellSm, fun hf => ?_⟩
   refine ⟨_, (stepG_semacquire (n := 1) rfl rfl (by k_ne) rfl H.f_semacquire (x_semacquire_n L) (x_semacquire_b L) (x_semacquire_x L) (x_semacquire_f L) (by simp [Act.eval, smA]) hf.cellSm (by k_ne) (hf.thaw 1)).trans (by rfl), 60, ?_⟩
   replace hF : WgLive L.tWg Wg (w4.setCell (smA Wg) (.int .u32 0)) := ⟨_, _, hf.setSm 0⟩
   clear hf
   walk_nrm
   u_c stepG_region_end rs_rely hF
   u_c stepG_seq rs_rely hF
   u_reg rs_rely hF
   u_op rs_rely hF
   u_op rs_rely hF
   u_op rs_rely hF
   u_call H.f_uLoad (nm_uLoad L) uLoadFn rs_rely hF
   u_c stepG_seq rs_rely hF
   u_reg rs_rely hF
   u_op rs_rely hF
   u_c stepG_region_end rs_rely hF
   u_c stepG_seq rs_rely hF
   u_reg rs_rely hF
   u_op rs_rely hF
   u_op rs_rely hF
   u_op rs_rely hF
   refine Goes.stop (fun w7 h7 => ?_)
   replace hF := rs_rely hF h7
   clear h7
   refine ⟨rfl, fun hw => ⟨_, stepG_load_atomic (v := 0) rfl rfl (by k_ne) rfl H.f_loadU64 (x_loadU64_n L) (x_loadU64_b L) (x_loadU64_x L) .u64 (x_loadU64_f L) rfl hw.cellSt, 60, ?_⟩⟩
   clear hw
   walk_nrm
   u_op rs_rely hF
   u_c stepG_region_end rs_rely hF
   u_c stepG_ret' rs_rely hF
   u_leave1 H.f_uLoad rs_rely hF
   u_op rs_rely hF
   u_op rs_rely hF
   u_c stepG_region_end rs_rely hF
   u_c stepG_seq rs_rely hF
   u_cond true rs_rely hF
   u_c stepG_seq rs_rely hF
   u_reg rs_rely hF
   refine Goes.stop (fun w5 h5 => ?_)
   replace hF := rs_rely hF h5
   clear h5
   refine ⟨rfl, _, stepG_mark0 .enable (by simp) rfl rfl (by k_ne) rfl H.f_enable (x_enable_n L) (x_enable_b L) (x_enable_x L) (x_enable_f L), 30, ?_⟩
   walk_nrm
   u_c stepG_region_end rs_rely hF
   u_reg rs_rely hF
   u_op rs_rely hF
   u_conv H.underlying_tWgP H.room_tWg (WgLive.cell0 hF).choose_spec rs_rely hF
   refine Goes.stop (fun w6 h6 => ?_)
   replace hF := rs_rely hF h6
   clear h6
   refine ⟨rfl, _, stepG_markAt .acquire (by simp) rfl rfl (by k_ne) rfl H.f_acquire (x_acquire_n L) (x_acquire_b L) (x_acquire_x L) (x_acquire_f L) (by simp [Act.eval, stA]), 40, ?_⟩
   walk_nrm
   u_c stepG_region_end rs_rely hF
   u_c stepG_seq rs_rely hF
   u_c stepG_seq rs_rely hF
   u_reg rs_rely hF
   u_op rs_rely hF
   u_c stepG_region_end rs_rely hF
   u_cond false rs_rely hF
   u_c stepG_skip rs_rely hF
   u_c stepG_ret' rs_rely hF
   u_leave0 H.f_wait rs_rely hF
   exact Goes.stop (fun _ _ => rfl)
  ·refine ⟨_, stepG_cas_miss (v := (v' : Int) * KK) (old := S) (n := S + 1) rfl rfl (by k_ne) rfl H.f_casU64 (x_casU64_n L) (x_casU64_b L) (x_casU64_x L) .u64 (x_casU64_f L) rfl rfl rfl hw.cellSt (hw.thaw 0) (by rw [← hS]; simp only [KK]; omega), 40, ?_⟩
   clear hw
   walk_nrm
   u_op rs_rely hF
   u_c stepG_region_end rs_rely hF
   u_c stepG_ret' rs_rely hF
   u_leave1 H.f_uCas rs_rely hF
   u_c stepG_region_end rs_rely hF
   u_cond false rs_rely hF
   u_c stepG_skip rs_rely hF
   u_c stepG_inBlock rs_rely hF
   u_c stepG_inLoop rs_rely hF
   refine Goes.stop (fun w8 h8 => ?_)
   replace hF := rs_rely hF h8
   clear h8
   exact ⟨_, rfl, by simp, by simp, trivial, hF⟩
end
end
section
open Go Go.Conc Go.ConcN Go.RowKit Go.Conc.Lib Go.ConcR.Gen Go.ConcN.Gen
open Go.ConcR (KK wgBlock WgAt stA smA rd wr mk Payload DC0)
theorem slots2 {f : Operand → Value} {x y : Operand} {n k : Nat} (hn : n = k + 2) : Array.map f #[x, y] ++ Array.replicate (n - (Array.map f #[x, y]).size) undef = #[f x, f y] ++ Array.replicate k undef := by
 subst hn; simp
theorem slots1 {f : Operand → Value} {x : Operand} {n k : Nat} (hn : n = k + 1) : Array.map f #[x] ++ Array.replicate (n - (Array.map f #[x]).size) undef = #[f x] ++ Array.replicate k undef := by
 subst hn; simp
section
variable {P : Program} {L : WgLink} {Wg : Nat} {b₀ : Frame} {a₀ : Act} {ops₀ : Array Oper} {i₀ : Nat} {rest₀ : List Nat} {k₀ : List Item} {cs : List Frame} {fr : Frame} {T : Array Value} {c : Code} {w : World}
theorem add_at (H : WgLib P L) (hfr : fr = (base L.add).at ⟨T, []⟩ [.code c]) {p q : Value} (hT : T = #[p, q] ++ Array.replicate 115 undef) (hp : p = .pointer (some ⟨Wg, 0, none⟩)) (hq : q = .int .i64 1) (hc : c = body_add L) (hF : WgLive L.tWg Wg w) {Next : Goroutine → World → Prop}
  (hn : ∀ w, Next (G (b₀.at (a₀.put ((ops₀[i₀]?).bind (·.dst)) (.tuple #[])) (.inRegion ops₀ rest₀ :: k₀)) cs) w) :
  Goes P true (RS L.tWg Wg) DC0 (AtWord P L.tWg Wg .disable (AtPlus P L.tWg Wg Next)) 12 (G fr (b₀.at a₀ (.inRegion ops₀ (i₀ :: rest₀) :: k₀) :: cs)) w := by
 subst hfr hT hp hq hc
 refine goes_imp (fun g w h => AtWord.mono (fun g w h => AtPlus.mono (fun g w h => ?_) h) h) _ _ _ (add_in (b₀ := b₀) (a₀ := a₀) (ops₀ := ops₀) (i₀ := i₀) (rest₀ := rest₀) (k₀ := k₀) (cs := cs) H w hF)
 subst h
 exact hn w
theorem wait_at (H : WgLib P L) (hfr : fr = (base L.wait).at ⟨T, []⟩ [.code c]) {p : Value} (hT : T = #[p] ++ Array.replicate 83 undef) (hp : p = .pointer (some ⟨Wg, 0, none⟩)) (hc : c = body_wait L) (hF : WgLive L.tWg Wg w) :
  Goes P true (RS L.tWg Wg) DC0 (AtWord P L.tWg Wg .disable (AnchWN L (fun _ => True) Wg (b₀.at a₀ (.inRegion ops₀ (i₀ :: rest₀) :: k₀)) cs)) 3 (G fr (b₀.at a₀ (.inRegion ops₀ (i₀ :: rest₀) :: k₀) :: cs)) w := by
 subst hfr hT hp hc
 exact wait_in H w hF
end
end
section
open Go Go.Conc Go.ConcN Go.RowKit Go.Conc.Lib Go.ConcR.Gen Go.ConcN.Gen
open Go.ConcR (KK wgBlock WgAt stA smA rd wr mk Payload Aside2 DC0 ofEvent_cell)
noncomputable def bodyP : Code := Tryz.f89.body.getD .skip
noncomputable def loopP : Code := match bodyP with
 | .seq _ (.seq _ (.seq _ (.seq (.seq _ (.block _ (.loop c))) _))) => c
 | _ => .skip
noncomputable def restP : Code := match bodyP with
 | .seq _ (.seq _ (.seq _ (.seq (.seq _ (.block _ (.loop _))) c))) => c
 | _ => .skip
def slotsP (B0 cnt : Nat) (lookv : Value) (j : Nat) (x7 x10 x11 x12 x13 x14 : Value) : Array Value :=
 #[.int .i64 cnt, lookv, undef, .pointer (some ⟨B0, 0, none⟩), .int .u32 0, .pointer (some ⟨B0 + 1, 0, none⟩), .pointer (some ⟨B0 + 2, 0, none⟩), x7, .int .i64 cnt, .int .i64 j, x10, x11, x12, x13, x14, undef, undef]
def HeadP (B0 cnt : Nat) (lookv : Value) (cs : List Frame) (j : Nat) (g : Goroutine) (_ : World) : Prop :=
 ∃ x7 x10 x11 x12 x13 x14, g = G ((base 89).at ⟨slotsP B0 cnt lookv j x7 x10 x11 x12 x13 x14, []⟩ [.code loopP, .inLoop loopP, .inBlock 0, .code restP]) cs
set_option maxRecDepth 100000 in
set_option maxHeartbeats 2000000 in
theorem enterP {B0 cnt : Nat} {lf : FuncId} {first cap : Array Value} {cs : List Frame} (w : World) :
  Goes Tryz.prog true RT DC0 (AtNewB Tryz.prog B0 (.cells #[.func (.func lf) first cap] 91) (AtNewB Tryz.prog (B0 + 1) (.cells #[.int .u32 0] 165) (AtNewB Tryz.prog (B0 + 2) (wgBlock 172 0 0) (HeadP B0 cnt (.func (.func lf) first cap) cs 0)))) 10
   (G ((base 89).at ⟨#[.int .i64 cnt, .func (.func lf) first cap] ++ Array.replicate 15 undef, []⟩ [.code bodyP]) cs) w := by
 have hF : True := trivial
 simp only [bodyP, Tryz.f89, Option.getD_some]
 walk_nrm
 u_c stepG_seq tt_rely hF
 u_reg tt_rely hF
 refine Goes.stop (fun w₁ _ => ⟨rfl, fun hN => ?_⟩)
 subst hN
 refine ⟨_, (stepG_value rfl rfl (by decide) (w' := w₁.alloc (.cells #[.func (.func lf) first cap] 91)) (v := .pointer (some ⟨w₁.heap.size, 0, none⟩)) (by go_simp)).trans (by rw [listed_nil (by simp [go_sem])]), 20, ?_⟩
 generalize w₁.heap.size = B0
 walk_nrm
 u_op tt_rely hF
 u_c stepG_region_end tt_rely hF
 u_c stepG_seq tt_rely hF
 u_reg tt_rely hF
 refine Goes.stop (fun w₁ _ => ⟨rfl, fun hN => ?_⟩)
 refine ⟨_, (stepG_value rfl rfl (by decide) (w' := w₁.alloc (.cells #[.int .u32 0] 165)) (v := .pointer (some ⟨B0 + 1, 0, none⟩)) (by go_simp)).trans (by rw [listed_nil (by simp [go_sem])]), 20, ?_⟩
 clear hN
 walk_nrm
 u_c stepG_region_end tt_rely hF
 u_c stepG_seq tt_rely hF
 u_reg tt_rely hF
 refine Goes.stop (fun w₁ _ => ⟨rfl, fun hN => ?_⟩)
 refine ⟨_, (stepG_value rfl rfl (by decide) (w' := w₁.alloc (wgBlock 172 0 0)) (v := .pointer (some ⟨B0 + 2, 0, none⟩)) (by go_simp; rfl)).trans (by rw [listed_nil (by simp [go_sem])]), 20, ?_⟩
 clear hN
 walk_nrm
 u_c stepG_region_end tt_rely hF
 u_c stepG_seq tt_rely hF
 u_c stepG_seq tt_rely hF
 u_reg tt_rely hF
 u_op tt_rely hF
 u_op tt_rely hF
 u_c stepG_region_end tt_rely hF
 u_c stepG_block tt_rely hF
 u_c stepG_loop tt_rely hF
 exact Goes.stop (fun w₁ _ => ⟨_, _, _, _, _, _, rfl⟩)
theorem loudP : (Tryz.prog.funcs[(base 89).fn]?).any (·.norace) = false := by kernel_rfl
section
variable {main : Bool} {b : Frame} {a : Act} {kk : List Item} {cs : List Frame} {w : World} {ops : Array Oper} {i : Nat} {rest : List Nat} {o : Oper}
theorem stepG_storeI {x y : Operand} (ho : ops[i]? = some o) (hw : Region.wanted o (yielded ops a.tmps) = true) (hk : b.kind ≠ .early) (hop : o.op = .store 3 x y)
  {ad : Addr} {v : Int} {u : Value} (hx : a.eval x = .pointer (some ad)) (hy : a.eval y = .int .i64 v) (hc : w.cell? ad = some u) (hz : w.frozen? ad = false) (hq : (Tryz.prog.funcs[b.fn]?).any (·.norace) = false) :
  stepG Tryz.prog main (G (b.at a (.inRegion ops (i :: rest) :: kk)) cs) w = .go (G (b.at (a.put o.dst undef) (.inRegion ops rest :: kk)) cs) (w.setCell ad (.int .i64 v)) #[⟨.cell ad, true, false⟩] := by
 have hr : (execOp a.eval o).run Tryz.prog w = .ok .skip (w.setCell ad (.int .i64 v)) := by
  unfold execOp
  simp only [hop, hx, hy]
  simp [go_sem, stored, hc, hz]
 have he : (execOp a.eval o).events Tryz.prog w #[] = #[⟨.cell ad, true, false⟩] := by
  unfold execOp
  simp only [hop, hx, hy]
  simp [go_sem, storedEv, hc, hz]
 rw [stepG_none ho hw hk hr]
 unfold listed
 rw [he, seen_eq hq (by simp)]
end
set_option maxRecDepth 100000 in
set_option maxHeartbeats 400000 in
theorem roundP {B0 cnt j : Nat} {lf : FuncId} {first cap : Array Value} {cs : List Frame} (hj : j < cnt) (hcnt : cnt < 2147483648) {g : Goroutine} {w : World} (hF : WgLive 172 (B0 + 2) w) (h : HeadP B0 cnt (.func (.func lf) first cap) cs j g w) :
  ∃ k, Goes Tryz.prog true (RS 172 (B0 + 2)) DC0 (AtNew Tryz.prog 172 B0 (B0 + 3 + j) (.cells #[.int .i64 0] 3) (AtStore Tryz.prog 172 B0 (B0 + 3 + j) (.int .i64 j)
   (AtWord Tryz.prog 172 (B0 + 2) .disable (AtPlus Tryz.prog 172 (B0 + 2) (fun g w => ∃ k, Goes Tryz.prog true (RS 172 (B0 + 2)) DC0 (AtSpawn Tryz.prog 172 B0 (born Tryz.prog (callW B0 j)) (HeadP B0 cnt (.func (.func lf) first cap) cs (j + 1))) k g w))))) k g w := by
 obtain ⟨x7, x10, x11, x12, x13, x14, rfl⟩ := h
 have hlt : decide ((j : Int) < (cnt : Int)) = true := decide_eq_true (by omega)
 have hlt2 : (j : Int) < (cnt : Int) := by omega
 have hwj : IntKind.i64.wrap ((j : Int) + 1) = ((j + 1 : Nat) : Int) := by rw [IntKind.wrap_i64]; omega
 refine ⟨30, ?_⟩
 simp only [slotsP, loopP, bodyP, Tryz.f89, Option.getD_some]
 u_c stepG_seq rs_rely hF
 u_reg rs_rely hF
 u_op rs_rely hF
 u_c stepG_region_end rs_rely hF
 u_c stepG_seq rs_rely hF
 u_cnd true rs_rely hF
 u_c stepG_skip rs_rely hF
 u_c stepG_seq rs_rely hF
 u_c stepG_block rs_rely hF
 u_c stepG_seq rs_rely hF
 u_reg rs_rely hF
 u_op rs_rely hF
 refine Goes.stop (fun w₁ h₁ => ⟨rfl, fun hN => ?_⟩)
 replace hF := rs_rely hF h₁
 clear h₁
 refine ⟨_, (stepG_value rfl rfl (by decide) (w' := w₁.alloc (.cells #[.int .i64 0] 3)) (v := .pointer (some ⟨B0 + 3 + j, 0, none⟩)) (by go_simp)).trans (by rw [listed_nil (by simp [go_sem])]), 20, ?_⟩
 replace hF : WgLive 172 (B0 + 2) (w₁.alloc (.cells #[.int .i64 0] 3)) := by
  obtain ⟨st, sm, h⟩ := hF
  exact ⟨st, sm, h.of_block (get_push (by omega))⟩
 clear hN
 walk_nrm
 refine Goes.stop (fun w₂ h₂ => ⟨rfl, fun ⟨u, tt, hu⟩ => ?_⟩)
 replace hF := rs_rely hF h₂
 clear h₂
 have hc : w₂.cell? ⟨B0 + 3 + j, 0, none⟩ = some u := by unfold World.cell?; rw [hu]; rfl
 have hz : w₂.frozen? ⟨B0 + 3 + j, 0, none⟩ = false := by unfold World.frozen?; rw [hu]; rfl
 refine ⟨_, stepG_storeI rfl rfl (by decide) rfl rfl rfl hc hz loudP, 30, ?_⟩
 replace hF : WgLive 172 (B0 + 2) (w₂.setCell ⟨B0 + 3 + j, 0, none⟩ (.int .i64 j)) := by
  obtain ⟨st, sm, h⟩ := hF
  exact ⟨st, sm, h.of_block ((aside_setCell w₂ ⟨B0 + 3 + j, 0, none⟩ (.int .i64 j)).block _ (by simp; omega))⟩
 clear hc hz hu
 walk_nrm
 u_c stepG_region_end rs_rely hF
 u_c stepG_seq rs_rely hF
 u_reg rs_rely hF
 u_in rs_rely hF
 refine goes_call rfl rfl (by decide) rfl wgLib.f_add (nm_add link) rfl ⟨by u_nil, ?_⟩
 refine Goes.mono (add_at wgLib rfl (slots2 rfl) rfl rfl rfl hF (fun w => ?_)) (by decide)
 have hF : True := trivial
 refine ⟨20, ?_⟩
 walk_nrm
 u_c stepG_region_end any_rely hF
 u_reg any_rely hF
 u_op any_rely hF
 refine Goes.stop (fun w₃ _ => ⟨rfl, _, (stepG_spawn (d := callW B0 j) (w' := w₃) rfl rfl (by decide) (by simp [go_sem, callW, Deferred.ofValue, resolve]) rfl).trans (by rw [listed_nil (by simp [go_sem, Deferred.ofValue, resolve])]), 20, ?_⟩)
 walk_nrm
 u_c stepG_region_end any_rely hF
 u_c stepG_inBlock any_rely hF
 u_reg any_rely hF
 u_op any_rely hF
 u_op any_rely hF
 u_c stepG_region_end any_rely hF
 u_c stepG_inLoop any_rely hF
 exact Goes.stop (fun w₄ _ => ⟨_, _, _, _, _, _, rfl⟩)
theorem x_load32_n : (Tryz.f148.name == "runtime.NumGoroutine") = false := by kernel_rfl
theorem x_load32_b : Tryz.f148.body.isNone = true := by kernel_rfl
theorem x_load32_x : Extern.findNext Tryz.f148 = none := by kernel_rfl
theorem x_load32_f : Extern.find Tryz.f148 = some (Extern.Atomic.loadT (.int .u32)) := by kernel_rfl
theorem nm_load32 : (Tryz.f118.name == "runtime.NumGoroutine") = false := by kernel_rfl
section
variable {b₁ : Frame} {a₁ : Act} {ops₁ : Array Oper} {i₁ : Nat} {rest₁ : List Nat} {k₁ : List Item} {cs₁ : List Frame}
def Ends45 (B0 : Nat) (Fin : Nat → Goroutine → World → Prop) (g : Goroutine) (w : World) : Prop :=
 ∃ k, Goes Tryz.prog true (RS 172 (B0 + 2)) DC0 (AtRead Tryz.prog 172 165 B0 Fin) k g w
def AnchP (B0 : Nat) (Fin : Nat → Goroutine → World → Prop) (cs : List Frame) (g : Goroutine) (w : World) : Prop :=
 ∃ a₀ ops₀ k₀, (∀ w, Ends45 B0 Fin (G ((base 89).at (a₀.put ((ops₀[0]?).bind (·.dst)) (.tuple #[])) (.inRegion ops₀ [] :: k₀)) cs) w) ∧ AnchWN link (fun _ => True) (B0 + 2) ((base 89).at a₀ (.inRegion ops₀ (0 :: []) :: k₀)) cs g w
theorem waitP {B0 : Nat} {Fin : Nat → Goroutine → World → Prop} {cs : List Frame} (g : Goroutine) (w : World) (h : AnchP B0 Fin cs g w) :
  ∃ k, Goes Tryz.prog true (RS 172 (B0 + 2)) DC0 (AtSee Tryz.prog 172 (B0 + 2) (Ends45 B0 Fin) (AnchP B0 Fin cs)) k g w := by
 obtain ⟨a₀, ops₀, k₀, h1, h2⟩ := h
 obtain ⟨k, hk⟩ := wait_round wgLib g w h2
 exact ⟨k, goes_imp (fun _ _ x => AtSee.mono (fun g w e => by subst e; exact h1 w) (fun g w e => ⟨a₀, ops₀, k₀, h1, e⟩) x) k g w hk⟩
set_option maxRecDepth 100000 in
set_option maxHeartbeats 400000 in
theorem leaveP {B0 cnt : Nat} {lf : FuncId} {first cap : Array Value} {g : Goroutine} {w : World} (hF : WgLive 172 (B0 + 2) w) (h : HeadP B0 cnt (.func (.func lf) first cap) (b₁.at a₁ (.inRegion ops₁ (i₁ :: rest₁) :: k₁) :: cs₁) cnt g w) :
  ∃ k, Goes Tryz.prog true (RS 172 (B0 + 2)) DC0 (AtWord Tryz.prog 172 (B0 + 2) .disable (AnchP B0 (fun N g _ => g = G (b₁.at (a₁.put ((ops₁[i₁]?).bind (·.dst)) (.int .u32 N)) (.inRegion ops₁ rest₁ :: k₁)) cs₁) (b₁.at a₁ (.inRegion ops₁ (i₁ :: rest₁) :: k₁) :: cs₁))) k g w := by
 obtain ⟨x7, x10, x11, x12, x13, x14, rfl⟩ := h
 refine ⟨30, ?_⟩
 simp only [slotsP, loopP, restP, bodyP, Tryz.f89, Option.getD_some]
 u_c stepG_seq rs_rely hF
 u_reg rs_rely hF
 u_op rs_rely hF
 u_c stepG_region_end rs_rely hF
 u_c stepG_seq rs_rely hF
 u_cnd false rs_rely hF
 u_exit rs_rely hF
 u_c stepG_seq rs_rely hF
 u_reg rs_rely hF
 u_in rs_rely hF
 refine goes_call rfl rfl (by decide) rfl wgLib.f_wait (nm_wait link) rfl ⟨by u_nil, ?_⟩
 refine Goes.mono (goes_imp (fun _ _ h => h.mono (fun _ _ h => ⟨_, _, _, ?_, h⟩)) _ _ _ (wait_at wgLib rfl (slots1 rfl) rfl rfl hF)) (by decide)
 intro w
 have hF : True := trivial
 refine ⟨30, ?_⟩
 walk_nrm
 u_c stepG_region_end any_rely hF
 u_c stepG_seq any_rely hF
 u_reg any_rely hF
 u_call Tryz.func118 nm_load32 Tryz.f118 any_rely hF
 u_c stepG_seq any_rely hF
 u_reg any_rely hF
 u_op any_rely hF
 u_c stepG_region_end any_rely hF
 u_c stepG_seq any_rely hF
 u_reg any_rely hF
 u_op any_rely hF
 u_op any_rely hF
 u_op any_rely hF
 refine Goes.stop (fun w₃ _ => ⟨rfl, fun N hN => ?_⟩)
 have hc : w₃.cell? (nA B0) = some (.int .u32 N) := by unfold World.cell? nA; rw [hN]; rfl
 refine ⟨_, stepG_load_atomic (v := N) rfl rfl (by decide) rfl Tryz.func148 x_load32_n x_load32_b x_load32_x .u32 x_load32_f rfl hc, 30, ?_⟩
 clear hc hN
 walk_nrm
 u_op any_rely hF
 u_c stepG_region_end any_rely hF
 u_c stepG_ret' any_rely hF
 u_leave1 Tryz.func118 any_rely hF
 u_op any_rely hF
 u_c stepG_region_end any_rely hF
 u_c stepG_ret' any_rely hF
 u_leave1 Tryz.func89 any_rely hF
 exact Goes.stop (fun w₄ _ => rfl)
end
end
end Go.Proofs.YtdafpnpfcmgfcaaGreatDoor
