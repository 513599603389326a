/- The group's Add(1), walked in company. The group's Wait, walked in company. Add and Wait, as a caller meets them. -/
import Derived.Test.YtdafpnpfcmgfcaaGreatDoorKb09
import Derived.Conc.WgGenN3
import Derived.Conc.WgWords
import Derived.Test.YtdafpnpfcmgfcaaGreatDoorKb12
namespace Go.Proofs.YtdafpnpfcmgfcaaGreatDoor
section
open Go Go.Conc Go.ConcN Go.RowKit Go.Conc.Lib Go.ConcR.Gen Go.ConcN.Gen
open Go.ConcR (KK wgBlock WgAt stA smA rd wr mk Payload DC0)
section
variable {L : WgLink} {Wg : Nat} {b₀ : Frame} {a₀ : Act} {ops₀ : Array Oper} {i₀ : Nat} {rest₀ : List Nat} {k₀ : List Item} {cs : List Frame}
set_option maxRecDepth 100000 in
set_option maxHeartbeats 8000000 in
theorem add_in {P : Program} (H : WgLib P L) (w : World) (hF : WgLive L.tWg Wg w) :
  Goes P true (RS L.tWg Wg) DC0 (AtWord P L.tWg Wg .disable (AtPlus P L.tWg Wg (fun g _ => g = G (b₀.at (a₀.put ((ops₀[i₀]?).bind (·.dst)) (.tuple #[])) (.inRegion ops₀ rest₀ :: k₀)) cs))) 12
   (G ((base L.add).at ⟨#[.pointer (some ⟨Wg, 0, none⟩), .int .i64 1] ++ Array.replicate 115 undef, []⟩ [.code (body_add L)]) (b₀.at a₀ (.inRegion ops₀ (i₀ :: rest₀) :: k₀) :: cs)) w := by
 lib_facts
 walk_nrm
 simp only [body_add, addFn, Option.getD_some]
 u_c stepG_seq rs_rely hF
 u_cond true rs_rely hF
 u_c stepG_seq rs_rely hF
 u_c stepG_seq rs_rely hF
 u_reg rs_rely hF
 u_op rs_rely hF
 u_op rs_rely hF
 u_c stepG_region_end rs_rely hF
 u_cond false rs_rely hF
 u_c stepG_skip rs_rely hF
 u_c stepG_seq rs_rely hF
 u_reg rs_rely hF
 refine Goes.stop (fun w₁ h₁ => ?_)
 replace hF := rs_rely hF h₁
 clear h₁
 refine ⟨rfl, _, stepG_mark0 .disable (by simp) rfl rfl (by k_ne) rfl H.f_disable (x_disable_n L) (x_disable_b L) (x_disable_x L) (x_disable_f L), 60, ?_⟩
 walk_nrm
 u_c stepG_region_end rs_rely hF
 u_reg rs_rely hF
 u_defer rs_rely hF
 u_c stepG_region_end rs_rely hF
 u_c stepG_seq rs_rely hF
 u_reg rs_rely hF
 u_op rs_rely hF
 u_c stepG_region_end rs_rely hF
 u_c stepG_seq rs_rely hF
 u_c stepG_seq rs_rely hF
 u_reg rs_rely hF
 u_bub rs_rely hF
 u_c stepG_region_end rs_rely hF
 u_cond false rs_rely hF
 u_c stepG_skip rs_rely hF
 u_c stepG_seq rs_rely hF
 u_reg rs_rely hF
 u_op rs_rely hF
 u_op rs_rely hF
 u_op rs_rely hF
 u_op rs_rely hF
 u_op rs_rely hF
 u_op rs_rely hF
 u_call H.f_uAdd (nm_uAdd L) uAddFn rs_rely hF
 u_c stepG_seq rs_rely hF
 u_reg rs_rely hF
 u_op rs_rely hF
 u_c stepG_region_end rs_rely hF
 u_c stepG_seq rs_rely hF
 u_reg rs_rely hF
 u_op rs_rely hF
 u_op rs_rely hF
 u_op rs_rely hF
 u_op rs_rely hF
 refine Goes.stop (fun w₂ h₂ => ?_)
 replace hF := rs_rely hF h₂
 clear h₂
 refine ⟨rfl, fun v hv hw => ?_⟩
 rcases Nat.eq_zero_or_pos v with rfl | hvp
 ·replace hw : WgAt L.tWg Wg w₂ 0 0 := by simpa using hw
  have z : (((0 : Nat) : Int) + 1) * KK = KK := by simp
  rw [z]
  have e0 : IntKind.u64.wrap (0 + 4294967296) = KK := by decide
  refine ⟨_, (stepG_add_atomic rfl rfl (by k_ne) rfl H.f_addU64 (x_addU64_n L) (x_addU64_b L) (x_addU64_x L) .u64 (x_addU64_f L) rfl rfl hw.cellSt (hw.thaw 0)).trans (by rw [e0]; rfl), 110, ?_⟩
  replace hF : WgLive L.tWg Wg (w₂.setCell (stA Wg) (.int .u64 KK)) := ⟨_, _, hw.setSt _⟩
  clear hw
  simp only [KK] at hF ⊢
  walk_nrm
  u_op rs_rely hF
  u_c stepG_region_end rs_rely hF
  u_c stepG_ret' rs_rely hF
  u_leave1 H.f_uAdd rs_rely hF
  u_op rs_rely hF
  u_c stepG_region_end rs_rely hF
  u_c stepG_seq rs_rely hF
  u_c stepG_seq rs_rely hF
  u_reg rs_rely hF
  u_op rs_rely hF
  u_op rs_rely hF
  u_op rs_rely hF
  u_op rs_rely hF
  u_skip rs_rely hF
  u_skip rs_rely hF
  u_op rs_rely hF
  u_c stepG_region_end rs_rely hF
  u_cond false rs_rely hF
  u_c stepG_skip rs_rely hF
  u_c stepG_seq rs_rely hF
  u_reg rs_rely hF
  u_op rs_rely hF
  u_op rs_rely hF
  u_op rs_rely hF
  u_op rs_rely hF
  u_c stepG_region_end rs_rely hF
  u_c stepG_seq rs_rely hF
  u_reg rs_rely hF
  u_op rs_rely hF
  u_op rs_rely hF
  u_op rs_rely hF
  u_op rs_rely hF
  u_c stepG_region_end rs_rely hF
  u_c stepG_seq rs_rely hF
  u_c stepG_seq rs_rely hF
  u_reg rs_rely hF
  u_op rs_rely hF
  u_op rs_rely hF
  u_op rs_rely hF
  u_op rs_rely hF
  u_op rs_rely hF
  u_op rs_rely hF
  u_op rs_rely hF
  u_op rs_rely hF
  u_op rs_rely hF
  u_op rs_rely hF
  u_c stepG_region_end rs_rely hF
  u_cond true rs_rely hF
  u_reg rs_rely hF
  u_op rs_rely hF
  u_op rs_rely hF
  u_op rs_rely hF
  u_conv H.underlying_tPU32 H.room_tU32 (WgLive.cell1 hF).choose_spec rs_rely hF
  refine Goes.stop (fun w₃ h₃ => ?_)
  replace hF := rs_rely hF h₃
  clear h₃
  refine Or.inl ⟨rfl, _, stepG_markAt .read (by simp) rfl rfl (by k_ne) rfl H.f_raceRead (x_raceRead_n L) (x_raceRead_b L) (x_raceRead_x L) (x_raceRead_f L) (ad := ⟨Wg, 1, none⟩) (by simp [Act.eval]), 110, ?_⟩
  walk_nrm
  u_c stepG_region_end rs_rely hF
  u_c stepG_seq rs_rely hF
  u_c stepG_seq rs_rely hF
  u_reg rs_rely hF
  u_op rs_rely hF
  u_op rs_rely hF
  u_c stepG_region_end rs_rely hF
  u_cond false rs_rely hF
  u_c stepG_skip rs_rely hF
  u_c stepG_seq rs_rely hF
  u_c stepG_seq rs_rely hF
  u_reg rs_rely hF
  u_op rs_rely hF
  u_op rs_rely hF
  u_op rs_rely hF
  u_skip rs_rely hF
  u_skip rs_rely hF
  u_op rs_rely hF
  u_op rs_rely hF
  u_skip rs_rely hF
  u_skip rs_rely hF
  u_skip rs_rely hF
  u_skip rs_rely hF
  u_op rs_rely hF
  u_c stepG_region_end rs_rely hF
  u_cond false rs_rely hF
  u_c stepG_skip rs_rely hF
  u_c stepG_seq rs_rely hF
  u_c stepG_seq rs_rely hF
  u_reg rs_rely hF
  u_op rs_rely hF
  u_op rs_rely hF
  u_op rs_rely hF
  u_skip rs_rely hF
  u_skip rs_rely hF
  u_op rs_rely hF
  u_c stepG_region_end rs_rely hF
  u_cond true rs_rely hF
  u_c stepG_ret' rs_rely hF
  refine Goes.stop (fun w₄ h₄ => ?_)
  replace hF := rs_rely hF h₄
  clear h₄
  refine ⟨rfl, _, stepG_unwind_entry (v := .tuple #[]) (evs := #[mk .enable]) rfl H.f_enable (x_enable_n L) (x_enable_b L) (x_enable_x L) (x_enable_f L) (by simp [Extern.Race.none_]) (by simp [mk]) (by simp [mk]), 1, ?_⟩
  u_leave0 H.f_add rs_rely hF
  exact Goes.stop (fun _ _ => rfl)
 ·-- others are counted
  obtain ⟨V, hV⟩ : ∃ V : Int, V = (v : Int) + 1 := ⟨_, rfl⟩
  obtain ⟨S, hS⟩ : ∃ S : Int, S = V * KK := ⟨_, rfl⟩
  have eS : IntKind.u64.wrap ((v : Int) * KK + 4294967296) = S := by rw [IntKind.wrap_u64, hS, hV]; simp only [KK]; omega
  rw [← hV, ← hS]
  have a1 : S / 4294967296 = V := by rw [hS]; simp only [KK]; omega
  have b1 : bits .and .u64 S 2147483648 = 0 := by
   have := st_flag (v + 1) 0 (by omega) (by omega)
   rw [hS, hV]; simpa [KK] using this
  have b2 : bits .and .u64 S 2147483647 = 0 := by
   have := st_waiters (v + 1) 0 (by omega) (by omega)
   rw [hS, hV]; simpa [KK] using this
  have c1 : IntKind.i32.wrap V = V := by rw [IntKind.wrap_i32]; omega
  have hV1 : 1 < V := by omega
  have hV2 : V < 2147483648 := by omega
  have q1 : (V == 1) = false := by simp; omega
  have q2 : decide (V = 1) = false := decide_eq_false (by omega)
  have q3 : decide (V < 0) = false := decide_eq_false (by omega)
  have q4 : decide (0 < V) = true := decide_eq_true (by omega)
  have q5 : (V == 0) = false := by simp; omega
  have q6 : decide (V = 0) = false := decide_eq_false (by omega)
  refine ⟨_, (stepG_add_atomic rfl rfl (by k_ne) rfl H.f_addU64 (x_addU64_n L) (x_addU64_b L) (x_addU64_x L) .u64 (x_addU64_f L) rfl rfl hw.cellSt (hw.thaw 0)).trans (by rw [eS]; rfl), 130, ?_⟩
  replace hF : WgLive L.tWg Wg (w₂.setCell (stA Wg) (.int .u64 S)) := ⟨_, _, hw.setSt _⟩
  clear hw hS hV eS
  walk_nrm
  u_op rs_rely hF
  u_c stepG_region_end rs_rely hF
  u_c stepG_ret' rs_rely hF
  u_leave1 H.f_uAdd rs_rely hF
  u_op rs_rely hF
  u_c stepG_region_end rs_rely hF
  u_c stepG_seq rs_rely hF
  u_c stepG_seq rs_rely hF
  u_reg rs_rely hF
  u_op rs_rely hF
  u_op rs_rely hF
  u_op rs_rely hF
  u_op rs_rely hF
  u_skip rs_rely hF
  u_skip rs_rely hF
  u_op rs_rely hF
  u_c stepG_region_end rs_rely hF
  u_cond false rs_rely hF
  u_c stepG_skip rs_rely hF
  u_c stepG_seq rs_rely hF
  u_reg rs_rely hF
  u_op rs_rely hF
  u_op rs_rely hF
  u_op rs_rely hF
  u_op rs_rely hF
  u_c stepG_region_end rs_rely hF
  u_c stepG_seq rs_rely hF
  u_reg rs_rely hF
  u_op rs_rely hF
  u_op rs_rely hF
  u_op rs_rely hF
  u_op rs_rely hF
  u_c stepG_region_end rs_rely hF
  u_c stepG_seq rs_rely hF
  u_c stepG_seq rs_rely hF
  u_reg rs_rely hF
  u_op rs_rely hF
  u_op rs_rely hF
  u_op rs_rely hF
  u_op rs_rely hF
  u_op rs_rely hF
  u_op rs_rely hF
  u_op rs_rely hF
  u_op rs_rely hF
  u_op rs_rely hF
  u_op rs_rely hF
  u_c stepG_region_end rs_rely hF
  u_cond false rs_rely hF
  u_c stepG_skip rs_rely hF
  u_c stepG_seq rs_rely hF
  u_c stepG_seq rs_rely hF
  u_reg rs_rely hF
  u_op rs_rely hF
  u_op rs_rely hF
  u_c stepG_region_end rs_rely hF
  u_cond false rs_rely hF
  u_c stepG_skip rs_rely hF
  u_c stepG_seq rs_rely hF
  u_c stepG_seq rs_rely hF
  u_reg rs_rely hF
  u_op rs_rely hF
  u_op rs_rely hF
  u_op rs_rely hF
  u_skip rs_rely hF
  u_skip rs_rely hF
  u_op rs_rely hF
  u_op rs_rely hF
  u_skip rs_rely hF
  u_skip rs_rely hF
  u_skip rs_rely hF
  u_skip rs_rely hF
  u_op rs_rely hF
  u_c stepG_region_end rs_rely hF
  u_cond false rs_rely hF
  u_c stepG_skip rs_rely hF
  u_c stepG_seq rs_rely hF
  u_c stepG_seq rs_rely hF
  u_reg rs_rely hF
  u_op rs_rely hF
  u_op rs_rely hF
  u_op rs_rely hF
  u_skip rs_rely hF
  u_skip rs_rely hF
  u_op rs_rely hF
  u_c stepG_region_end rs_rely hF
  u_cond true rs_rely hF
  u_c stepG_ret' rs_rely hF
  refine Goes.stop (fun w₄ h₄ => ?_)
  replace hF := rs_rely hF h₄
  clear h₄
  refine Or.inr ⟨rfl, _, stepG_unwind_entry (v := .tuple #[]) (evs := #[mk .enable]) rfl H.f_enable (x_enable_n L) (x_enable_b L) (x_enable_x L) (x_enable_f L) (by simp [Extern.Race.none_]) (by simp [mk]) (by simp [mk]), 1, ?_⟩
  u_leave0 H.f_add rs_rely hF
  exact Goes.stop (fun _ _ => rfl)
end
end
section
open Go Go.Conc Go.ConcN Go.RowKit Go.Conc.Lib Go.ConcR.Gen Go.ConcN.Gen
open Go.ConcR (KK wgBlock WgAt stA smA rd wr mk Payload DC0)
section
variable {L : WgLink} {Wg : Nat} {b₀ : Frame} {a₀ : Act} {ops₀ : Array Oper} {i₀ : Nat} {rest₀ : List Nat} {k₀ : List Item} {cs : List Frame}
set_option maxRecDepth 100000 in
theorem wait_in {P : Program} (H : WgLib P L) (w : World) (hF : WgLive L.tWg Wg w) :
  Goes P true (RS L.tWg Wg) DC0 (AtWord P L.tWg Wg .disable (AnchWN L (fun _ => True) Wg (b₀.at a₀ (.inRegion ops₀ (i₀ :: rest₀) :: k₀)) cs)) 3
   (G ((base L.wait).at ⟨#[.pointer (some ⟨Wg, 0, none⟩)] ++ Array.replicate 83 undef, []⟩ [.code (body_wait L)]) (b₀.at a₀ (.inRegion ops₀ (i₀ :: rest₀) :: k₀) :: cs)) w := by
 lib_facts
 walk_nrm
 simp only [body_wait, waitFn, Option.getD_some]
 u_c stepG_seq rs_rely hF
 u_cond true rs_rely hF
 u_reg rs_rely hF
 refine Goes.stop (fun w₁ h₁ => ?_)
 replace hF := rs_rely hF h₁
 clear h₁
 refine ⟨rfl, _, stepG_mark0 .disable (by simp) rfl rfl (by k_ne) rfl H.f_disable (x_disable_n L) (x_disable_b L) (x_disable_x L) (x_disable_f L), 3, ?_⟩
 walk_nrm
 u_c stepG_region_end rs_rely hF
 u_c stepG_block rs_rely hF
 u_c stepG_loop rs_rely hF
 exact Goes.stop (fun w₂ h₂ => ⟨_, rfl, by simp, by simp, trivial, rs_rely hF h₂⟩)
set_option maxRecDepth 100000 in
set_option maxHeartbeats 16000000 in
theorem wait_round {P : Program} (H : WgLib P L) (g : Goroutine) (w : World) (h : AnchWN L (fun _ => True) Wg (b₀.at a₀ (.inRegion ops₀ (i₀ :: rest₀) :: k₀)) cs g w) :
  ∃ m, Goes P true (RS L.tWg Wg) DC0 (AtSee P L.tWg Wg (fun g _ => g = G (b₀.at (a₀.put ((ops₀[i₀]?).bind (·.dst)) (.tuple #[])) (.inRegion ops₀ rest₀ :: k₀)) cs) (AnchWN L (fun _ => True) Wg (b₀.at a₀ (.inRegion ops₀ (i₀ :: rest₀) :: k₀)) cs)) m g w := by
 lib_facts
 obtain ⟨T, rfl, hT84, t0, _, hF⟩ := h
 obtain ⟨v0, v1, v2, v3, v4, v5, v6, v7, v8, v9, v10, v11, v12, v13, v14, v15, v16, v17, v18, v19, v20, v21, v22, v23, v24, v25, v26, v27, v28, v29, v30, v31, v32, v33, v34, v35, v36, v37, v38, v39, v40, v41, v42, v43, v44, v45, v46, v47, v48, v49, v50, v51, v52, v53, v54, v55, v56, v57, v58, v59, v60, v61, v62, v63, v64, v65, v66, v67, v68, v69, v70, v71, v72, v73, v74, v75, v76, v77, v78, v79, v80, v81, v82, v83, rfl⟩ := array84 T hT84
 simp only [List.getElem?_toArray, List.getElem?_cons_zero, Option.some.injEq] at t0
 subst t0
 refine ⟨40, ?_⟩
 simp only [L7, body_wait, waitFn, Option.getD_some]
 u_c stepG_block rs_rely hF
 u_c stepG_seq rs_rely hF
 u_reg rs_rely hF
 u_op rs_rely hF
 u_op rs_rely hF
 u_op rs_rely hF
 u_call H.f_uLoad (nm_uLoad L) uLoadFn rs_rely hF
 u_c stepG_seq rs_rely hF
 u_reg rs_rely hF
 u_op rs_rely hF
 u_c stepG_region_end rs_rely hF
 u_c stepG_seq rs_rely hF
 u_reg rs_rely hF
 u_op rs_rely hF
 u_op rs_rely hF
 u_op rs_rely hF
 refine Goes.stop (fun w₁ h₁ => ?_)
 replace hF := rs_rely hF h₁
 clear h₁
 refine ⟨rfl, fun v hv hw => ?_⟩
 rcases Nat.eq_zero_or_pos v with rfl | hvp
 ·replace hw : WgAt L.tWg Wg w₁ 0 0 := by simpa using hw
  refine ⟨_, stepG_load_atomic (v := 0) rfl rfl (by k_ne) rfl H.f_loadU64 (x_loadU64_n L) (x_loadU64_b L) (x_loadU64_x L) .u64 (x_loadU64_f L) rfl hw.cellSt, fun _ => ⟨60, ?_⟩, fun h => absurd rfl h⟩
  clear hw
  walk_nrm
  u_op rs_rely hF
  u_c stepG_region_end rs_rely hF
  u_c stepG_ret' rs_rely hF
  u_leave1 H.f_uLoad rs_rely hF
  u_op rs_rely hF
  u_c stepG_region_end rs_rely hF
  u_c stepG_seq rs_rely hF
  u_reg rs_rely hF
  u_op rs_rely hF
  u_op rs_rely hF
  u_op rs_rely hF
  u_op rs_rely hF
  u_c stepG_region_end rs_rely hF
  u_c stepG_seq rs_rely hF
  u_reg rs_rely hF
  u_op rs_rely hF
  u_op rs_rely hF
  u_op rs_rely hF
  u_op rs_rely hF
  u_c stepG_region_end rs_rely hF
  u_c stepG_seq rs_rely hF
  u_c stepG_seq rs_rely hF
  u_reg rs_rely hF
  u_op rs_rely hF
  u_op rs_rely hF
  u_c stepG_region_end rs_rely hF
  u_cond true rs_rely hF
  u_c stepG_seq rs_rely hF
  u_cond true rs_rely hF
  u_c stepG_seq rs_rely hF
  u_reg rs_rely hF
  refine Goes.stop (fun w5 h5 => ?_)
  replace hF := rs_rely hF h5
  clear h5
  refine ⟨rfl, _, stepG_mark0 .enable (by simp) rfl rfl (by k_ne) rfl H.f_enable (x_enable_n L) (x_enable_b L) (x_enable_x L) (x_enable_f L), 30, ?_⟩
  walk_nrm
  u_c stepG_region_end rs_rely hF
  u_reg rs_rely hF
  u_op rs_rely hF
  u_conv H.underlying_tWgP H.room_tWg (WgLive.cell0 hF).choose_spec rs_rely hF
  refine Goes.stop (fun w6 h6 => ?_)
  replace hF := rs_rely hF h6
  clear h6
  refine ⟨rfl, _, stepG_markAt .acquire (by simp) rfl rfl (by k_ne) rfl H.f_acquire (x_acquire_n L) (x_acquire_b L) (x_acquire_x L) (x_acquire_f L) (by simp [Act.eval, stA]), 40, ?_⟩
  walk_nrm
  u_c stepG_region_end rs_rely hF
  u_c stepG_seq rs_rely hF
  u_c stepG_seq rs_rely hF
  u_reg rs_rely hF
  u_op rs_rely hF
  u_op rs_rely hF
  u_op rs_rely hF
  u_op rs_rely hF
  u_op rs_rely hF
  u_op rs_rely hF
  u_op rs_rely hF
  u_op rs_rely hF
  u_skip rs_rely hF
  u_skip rs_rely hF
  u_op rs_rely hF
  u_c stepG_region_end rs_rely hF
  u_cond false rs_rely hF
  u_c stepG_skip rs_rely hF
  u_c stepG_ret' rs_rely hF
  u_leave0 H.f_wait rs_rely hF
  exact Goes.stop (fun _ _ => rfl)
 ·obtain ⟨S, hS⟩ : ∃ S : Int, (v : Int) * KK = S := ⟨_, rfl⟩
  have a1 : S / 4294967296 = (v : Int) := by rw [← hS]; simp only [KK]; omega
  have b1 : bits .and .u64 S 2147483648 = 0 := by
   have := st_flag v 0 (by omega) (by omega)
   rw [← hS]; simpa [KK] using this
  have b2 : bits .and .u64 S 2147483647 = 0 := by
   have := st_waiters v 0 (by omega) (by omega)
   rw [← hS]; simpa [KK] using this
  have c1 : IntKind.i32.wrap (v : Int) = (v : Int) := by rw [IntKind.wrap_i32]; omega
  have c2 : IntKind.u64.wrap (S + 1) = S + 1 := by rw [IntKind.wrap_u64, ← hS]; simp only [KK]; omega
  have q5 : ((v : Int) == 0) = false := by simp; omega
  have q6 : decide ((v : Int) = 0) = false := decide_eq_false (by omega)
  have q7 : ¬ ((v : Int) = 0) := by omega
  have q8 : ¬ (v = 0) := by omega
  refine ⟨_, stepG_load_atomic (v := S) rfl rfl (by k_ne) rfl H.f_loadU64 (x_loadU64_n L) (x_loadU64_b L) (x_loadU64_x L) .u64 (x_loadU64_f L) rfl (hS ▸ hw.cellSt), fun h => absurd h (by omega), fun _ => ⟨80, ?_⟩⟩
  clear hw
  walk_nrm
  u_op rs_rely hF
  u_c stepG_region_end rs_rely hF
  u_c stepG_ret' rs_rely hF
  u_leave1 H.f_uLoad rs_rely hF
  u_op rs_rely hF
  u_c stepG_region_end rs_rely hF
  u_c stepG_seq rs_rely hF
  u_reg rs_rely hF
  u_op rs_rely hF
  u_op rs_rely hF
  u_op rs_rely hF
  u_op rs_rely hF
  u_c stepG_region_end rs_rely hF
  u_c stepG_seq rs_rely hF
  u_reg rs_rely hF
  u_op rs_rely hF
  u_op rs_rely hF
  u_op rs_rely hF
  u_op rs_rely hF
  u_c stepG_region_end rs_rely hF
  u_c stepG_seq rs_rely hF
  u_c stepG_seq rs_rely hF
  u_reg rs_rely hF
  u_op rs_rely hF
  u_op rs_rely hF
  u_c stepG_region_end rs_rely hF
  u_cond false rs_rely hF
  u_c stepG_skip rs_rely hF
  u_c stepG_seq rs_rely hF
  u_reg rs_rely hF
  u_op rs_rely hF
  u_op rs_rely hF
  u_op rs_rely hF
  u_op rs_rely hF
  u_op rs_rely hF
  u_op rs_rely hF
  u_call H.f_uCas (nm_uCas L) uCasFn rs_rely hF
  u_c stepG_seq rs_rely hF
  u_reg rs_rely hF
  u_op rs_rely hF
  u_c stepG_region_end rs_rely hF
  u_c stepG_seq rs_rely hF
  u_reg rs_rely hF
  u_op rs_rely hF
  u_op rs_rely hF
  u_op rs_rely hF
  u_op rs_rely hF
  u_op rs_rely hF
  refine Goes.stop (fun w2 h2 => ?_)
  replace hF := rs_rely hF h2
  clear h2
  refine ⟨rfl, fun v' hv' hw => ⟨fun e => ?_, fun e => ?_⟩⟩
  ·subst e
   rw [hS] at hw ⊢
   refine ⟨_, (stepG_cas_hit (v := S) (n := S + 1) rfl rfl (by k_ne) rfl H.f_casU64 (x_casU64_n L) (x_casU64_b L) (x_casU64_x L) .u64 (x_casU64_f L) rfl rfl rfl hw.cellSt (hw.thaw 0)).trans (by rfl), 90, ?_⟩
   replace hF : WgLive L.tWg Wg (w2.setCell (stA Wg) (.int .u64 (S + 1))) := ⟨_, _, hw.setSt _⟩
   clear hw
   walk_nrm
   u_op rs_rely hF
   u_c stepG_region_end rs_rely hF
   u_c stepG_ret' rs_rely hF
   u_leave1 H.f_uCas rs_rely hF
   u_c stepG_region_end rs_rely hF
   u_cond true rs_rely hF
   u_c stepG_seq rs_rely hF
   u_c stepG_seq rs_rely hF
   u_reg rs_rely hF
   u_op rs_rely hF
   u_op rs_rely hF
   u_op rs_rely hF
   u_op rs_rely hF
   u_c stepG_region_end rs_rely hF
   u_cond true rs_rely hF
   u_reg rs_rely hF
   u_op rs_rely hF
   u_op rs_rely hF
   u_op rs_rely hF
   u_conv H.underlying_tPU32 H.room_tU32 (WgLive.cell1 hF).choose_spec rs_rely hF
   refine Goes.stop (fun w3 h3 => ?_)
   replace hF := rs_rely hF h3
   clear h3
   refine ⟨rfl, _, stepG_markAt .write (by simp) rfl rfl (by k_ne) rfl H.f_raceWrite (x_raceWrite_n L) (x_raceWrite_b L) (x_raceWrite_x L) (x_raceWrite_f L) (ad := ⟨Wg, 1, none⟩) (by simp [Act.eval]), 60, ?_⟩
   walk_nrm
   u_c stepG_region_end rs_rely hF
   u_c stepG_seq rs_rely hF
   u_reg rs_rely hF
   u_op rs_rely hF
   u_c stepG_region_end rs_rely hF
   u_c stepG_seq rs_rely hF
   u_c stepG_seq rs_rely hF
   u_reg rs_rely hF
   u_op rs_rely hF
   u_op rs_rely hF
   u_op rs_rely hF
   u_op rs_rely hF
   u_skip rs_rely hF
   u_op rs_rely hF
   u_c stepG_region_end rs_rely hF
   u_cond false rs_rely hF
   u_c stepG_skip rs_rely hF
   u_c stepG_seq rs_rely hF
   u_reg rs_rely hF
   u_op rs_rely hF
   u_op rs_rely hF
   u_op rs_rely hF
   u_op rs_rely hF
   refine Goes.stop (fun w4 h4 => ?_)
   replace hF := rs_rely hF h4
   clear h4
   refine ⟨rfl, rfl, fun ⟨st, hw⟩ => stepG_semacquire_wait rfl rfl rfl H.f_semacquire (x_semacquire_n L) (x_semacquire_b L) (x_semacquire_x L) (x_semacquire_f L) (by simp [Act.eval, smA]) hw.cellSm, fun hf => ?_⟩
   refine ⟨_, (stepG_semacquire (n := 1) rfl rfl (by k_ne) rfl H.f_semacquire (x_semacquire_n L) (x_semacquire_b L) (x_semacquire_x L) (x_semacquire_f L) (by simp [Act.eval, smA]) hf.cellSm (by k_ne) (hf.thaw 1)).trans (by rfl), 60, ?_⟩
   replace hF : WgLive L.tWg Wg (w4.setCell (smA Wg) (.int .u32 0)) := ⟨_, _, hf.setSm 0⟩
   clear hf
   walk_nrm
   u_c stepG_region_end rs_rely hF
   u_c stepG_seq rs_rely hF
   u_reg rs_rely hF
   u_op rs_rely hF
   u_op rs_rely hF
   u_op rs_rely hF
   u_call H.f_uLoad (nm_uLoad L) uLoadFn rs_rely hF
   u_c stepG_seq rs_rely hF
   u_reg rs_rely hF
   u_op rs_rely hF
   u_c stepG_region_end rs_rely hF
   u_c stepG_seq rs_rely hF
   u_reg rs_rely hF
   u_op rs_rely hF
   u_op rs_rely hF
   u_op rs_rely hF
   refine Goes.stop (fun w7 h7 => ?_)
   replace hF := rs_rely hF h7
   clear h7
   refine ⟨rfl, fun hw => ⟨_, stepG_load_atomic (v := 0) rfl rfl (by k_ne) rfl H.f_loadU64 (x_loadU64_n L) (x_loadU64_b L) (x_loadU64_x L) .u64 (x_loadU64_f L) rfl hw.cellSt, 60, ?_⟩⟩
   clear hw
   walk_nrm
   u_op rs_rely hF
   u_c stepG_region_end rs_rely hF
   u_c stepG_ret' rs_rely hF
   u_leave1 H.f_uLoad rs_rely hF
   u_op rs_rely hF
   u_op rs_rely hF
   u_c stepG_region_end rs_rely hF
   u_c stepG_seq rs_rely hF
   u_cond true rs_rely hF
   u_c stepG_seq rs_rely hF
   u_reg rs_rely hF
   refine Goes.stop (fun w5 h5 => ?_)
   replace hF := rs_rely hF h5
   clear h5
   refine ⟨rfl, _, stepG_mark0 .enable (by simp) rfl rfl (by k_ne) rfl H.f_enable (x_enable_n L) (x_enable_b L) (x_enable_x L) (x_enable_f L), 30, ?_⟩
   walk_nrm
   u_c stepG_region_end rs_rely hF
   u_reg rs_rely hF
   u_op rs_rely hF
   u_conv H.underlying_tWgP H.room_tWg (WgLive.cell0 hF).choose_spec rs_rely hF
   refine Goes.stop (fun w6 h6 => ?_)
   replace hF := rs_rely hF h6
   clear h6
   refine ⟨rfl, _, stepG_markAt .acquire (by simp) rfl rfl (by k_ne) rfl H.f_acquire (x_acquire_n L) (x_acquire_b L) (x_acquire_x L) (x_acquire_f L) (by simp [Act.eval, stA]), 40, ?_⟩
   walk_nrm
   u_c stepG_region_end rs_rely hF
   u_c stepG_seq rs_rely hF
   u_c stepG_seq rs_rely hF
   u_reg rs_rely hF
   u_op rs_rely hF
   u_c stepG_region_end rs_rely hF
   u_cond false rs_rely hF
   u_c stepG_skip rs_rely hF
   u_c stepG_ret' rs_rely hF
   u_leave0 H.f_wait rs_rely hF
   exact Goes.stop (fun _ _ => rfl)
  ·refine ⟨_, stepG_cas_miss (v := (v' : Int) * KK) (old := S) (n := S + 1) rfl rfl (by k_ne) rfl H.f_casU64 (x_casU64_n L) (x_casU64_b L) (x_casU64_x L) .u64 (x_casU64_f L) rfl rfl rfl hw.cellSt (hw.thaw 0) (by rw [← hS]; simp only [KK]; omega), 40, ?_⟩
   clear hw
   walk_nrm
   u_op rs_rely hF
   u_c stepG_region_end rs_rely hF
   u_c stepG_ret' rs_rely hF
   u_leave1 H.f_uCas rs_rely hF
   u_c stepG_region_end rs_rely hF
   u_cond false rs_rely hF
   u_c stepG_skip rs_rely hF
   u_c stepG_inBlock rs_rely hF
   u_c stepG_inLoop rs_rely hF
   refine Goes.stop (fun w8 h8 => ?_)
   replace hF := rs_rely hF h8
   clear h8
   exact ⟨_, rfl, by simp, by simp, trivial, hF⟩
end
end
section
open Go Go.Conc Go.ConcN Go.RowKit Go.Conc.Lib Go.ConcR.Gen Go.ConcN.Gen
open Go.ConcR (KK wgBlock WgAt stA smA rd wr mk Payload DC0)
theorem slots2 {f : Operand → Value} {x y : Operand} {n k : Nat} (hn : n = k + 2) : Array.map f #[x, y] ++ Array.replicate (n - (Array.map f #[x, y]).size) undef = #[f x, f y] ++ Array.replicate k undef := by
 subst hn; simp
theorem slots1 {f : Operand → Value} {x : Operand} {n k : Nat} (hn : n = k + 1) : Array.map f #[x] ++ Array.replicate (n - (Array.map f #[x]).size) undef = #[f x] ++ Array.replicate k undef := by
 subst hn; simp
section
variable {P : Program} {L : WgLink} {Wg : Nat} {b₀ : Frame} {a₀ : Act} {ops₀ : Array Oper} {i₀ : Nat} {rest₀ : List Nat} {k₀ : List Item} {cs : List Frame} {fr : Frame} {T : Array Value} {c : Code} {w : World}
theorem add_at (H : WgLib P L) (hfr : fr = (base L.add).at ⟨T, []⟩ [.code c]) {p q : Value} (hT : T = #[p, q] ++ Array.replicate 115 undef) (hp : p = .pointer (some ⟨Wg, 0, none⟩)) (hq : q = .int .i64 1) (hc : c = body_add L) (hF : WgLive L.tWg Wg w) {Next : Goroutine → World → Prop}
  (hn : ∀ w, Next (G (b₀.at (a₀.put ((ops₀[i₀]?).bind (·.dst)) (.tuple #[])) (.inRegion ops₀ rest₀ :: k₀)) cs) w) :
  Goes P true (RS L.tWg Wg) DC0 (AtWord P L.tWg Wg .disable (AtPlus P L.tWg Wg Next)) 12 (G fr (b₀.at a₀ (.inRegion ops₀ (i₀ :: rest₀) :: k₀) :: cs)) w := by
 subst hfr hT hp hq hc
 refine goes_imp (fun g w h => AtWord.mono (fun g w h => AtPlus.mono (fun g w h => ?_) h) h) _ _ _ (add_in (b₀ := b₀) (a₀ := a₀) (ops₀ := ops₀) (i₀ := i₀) (rest₀ := rest₀) (k₀ := k₀) (cs := cs) H w hF)
 subst h
 exact hn w
theorem wait_at (H : WgLib P L) (hfr : fr = (base L.wait).at ⟨T, []⟩ [.code c]) {p : Value} (hT : T = #[p] ++ Array.replicate 83 undef) (hp : p = .pointer (some ⟨Wg, 0, none⟩)) (hc : c = body_wait L) (hF : WgLive L.tWg Wg w) :
  Goes P true (RS L.tWg Wg) DC0 (AtWord P L.tWg Wg .disable (AnchWN L (fun _ => True) Wg (b₀.at a₀ (.inRegion ops₀ (i₀ :: rest₀) :: k₀)) cs)) 3 (G fr (b₀.at a₀ (.inRegion ops₀ (i₀ :: rest₀) :: k₀) :: cs)) w := by
 subst hfr hT hp hc
 exact wait_in H w hF
end
end
end Go.Proofs.YtdafpnpfcmgfcaaGreatDoor
