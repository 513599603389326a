/- The group's Add(1), walked in company. -/
import Derived.Test.YtdafpnpfcmgfcabJD
import Derived.Conc.WgGenN3
import Derived.Conc.WgWords
namespace Go.Proofs.Ytdafpnpfcmgfcab
open Go Go.Conc Go.ConcN Go.RowKit Go.Conc.Lib Go.ConcR.Gen Go.ConcN.Gen
open Go.ConcR (KK wgBlock WgAt stA smA rd wr mk Payload DC0)

section
variable {L : WgLink} {Wg : Nat} {b₀ : Frame} {a₀ : Act} {ops₀ : Array Oper} {i₀ : Nat} {rest₀ : List Nat} {k₀ : List Item} {cs : List Frame}

set_option maxRecDepth 100000 in
set_option maxHeartbeats 8000000 in
theorem add_in {P : Program} (H : WgLib P L) (w : World) (hF : WgLive L.tWg Wg w) :
    Goes P true (RS L.tWg Wg) DC0 (AtWord P L.tWg Wg .disable (AtPlus P L.tWg Wg (fun g _ => g = G (b₀.at (a₀.put ((ops₀[i₀]?).bind (·.dst)) (.tuple #[])) (.inRegion ops₀ rest₀ :: k₀)) cs))) 12
      (G ((base L.add).at ⟨#[.pointer (some ⟨Wg, 0, none⟩), .int .i64 1] ++ Array.replicate 115 undef, []⟩ [.code (body_add L)]) (b₀.at a₀ (.inRegion ops₀ (i₀ :: rest₀) :: k₀) :: cs)) w := by
  lib_facts
  walk_nrm
  simp only [body_add, addFn, Option.getD_some]
  u_c stepG_seq rs_rely hF
  u_cond true rs_rely hF
  u_c stepG_seq rs_rely hF
  u_c stepG_seq rs_rely hF
  u_reg rs_rely hF
  u_op rs_rely hF
  u_op rs_rely hF
  u_c stepG_region_end rs_rely hF
  u_cond false rs_rely hF
  u_c stepG_skip rs_rely hF
  u_c stepG_seq rs_rely hF
  u_reg rs_rely hF
  refine Goes.stop (fun w₁ h₁ => ?_)
  replace hF := rs_rely hF h₁
  clear h₁
  refine ⟨rfl, _, stepG_mark0 .disable (by simp) rfl rfl (by k_ne) rfl H.f_disable (x_disable_n L) (x_disable_b L) (x_disable_x L) (x_disable_f L), 60, ?_⟩
  walk_nrm
  u_c stepG_region_end rs_rely hF
  u_reg rs_rely hF
  u_defer rs_rely hF
  u_c stepG_region_end rs_rely hF
  u_c stepG_seq rs_rely hF
  u_reg rs_rely hF
  u_op rs_rely hF
  u_c stepG_region_end rs_rely hF
  u_c stepG_seq rs_rely hF
  u_c stepG_seq rs_rely hF
  u_reg rs_rely hF
  u_bub rs_rely hF
  u_c stepG_region_end rs_rely hF
  u_cond false rs_rely hF
  u_c stepG_skip rs_rely hF
  u_c stepG_seq rs_rely hF
  u_reg rs_rely hF
  u_op rs_rely hF
  u_op rs_rely hF
  u_op rs_rely hF
  u_op rs_rely hF
  u_op rs_rely hF
  u_op rs_rely hF
  u_call H.f_uAdd (nm_uAdd L) uAddFn rs_rely hF
  u_c stepG_seq rs_rely hF
  u_reg rs_rely hF
  u_op rs_rely hF
  u_c stepG_region_end rs_rely hF
  u_c stepG_seq rs_rely hF
  u_reg rs_rely hF
  u_op rs_rely hF
  u_op rs_rely hF
  u_op rs_rely hF
  u_op rs_rely hF
  refine Goes.stop (fun w₂ h₂ => ?_)
  replace hF := rs_rely hF h₂
  clear h₂
  refine ⟨rfl, fun v hv hw => ?_⟩
  rcases Nat.eq_zero_or_pos v with rfl | hvp
  · replace hw : WgAt L.tWg Wg w₂ 0 0 := by simpa using hw
    have z : (((0 : Nat) : Int) + 1) * KK = KK := by simp
    rw [z]
    have e0 : IntKind.u64.wrap (0 + 4294967296) = KK := by decide
    refine ⟨_, (stepG_add_atomic rfl rfl (by k_ne) rfl H.f_addU64 (x_addU64_n L) (x_addU64_b L) (x_addU64_x L) .u64 (x_addU64_f L) rfl rfl hw.cellSt (hw.thaw 0)).trans (by rw [e0]; rfl), 110, ?_⟩
    replace hF : WgLive L.tWg Wg (w₂.setCell (stA Wg) (.int .u64 KK)) := ⟨_, _, hw.setSt _⟩
    clear hw
    simp only [KK] at hF ⊢
    walk_nrm
    u_op rs_rely hF
    u_c stepG_region_end rs_rely hF
    u_c stepG_ret' rs_rely hF
    u_leave1 H.f_uAdd rs_rely hF
    u_op rs_rely hF
    u_c stepG_region_end rs_rely hF
    u_c stepG_seq rs_rely hF
    u_c stepG_seq rs_rely hF
    u_reg rs_rely hF
    u_op rs_rely hF
    u_op rs_rely hF
    u_op rs_rely hF
    u_op rs_rely hF
    u_skip rs_rely hF
    u_skip rs_rely hF
    u_op rs_rely hF
    u_c stepG_region_end rs_rely hF
    u_cond false rs_rely hF
    u_c stepG_skip rs_rely hF
    u_c stepG_seq rs_rely hF
    u_reg rs_rely hF
    u_op rs_rely hF
    u_op rs_rely hF
    u_op rs_rely hF
    u_op rs_rely hF
    u_c stepG_region_end rs_rely hF
    u_c stepG_seq rs_rely hF
    u_reg rs_rely hF
    u_op rs_rely hF
    u_op rs_rely hF
    u_op rs_rely hF
    u_op rs_rely hF
    u_c stepG_region_end rs_rely hF
    u_c stepG_seq rs_rely hF
    u_c stepG_seq rs_rely hF
    u_reg rs_rely hF
    u_op rs_rely hF
    u_op rs_rely hF
    u_op rs_rely hF
    u_op rs_rely hF
    u_op rs_rely hF
    u_op rs_rely hF
    u_op rs_rely hF
    u_op rs_rely hF
    u_op rs_rely hF
    u_op rs_rely hF
    u_c stepG_region_end rs_rely hF
    u_cond true rs_rely hF
    u_reg rs_rely hF
    u_op rs_rely hF
    u_op rs_rely hF
    u_op rs_rely hF
    u_conv H.underlying_tPU32 H.room_tU32 (WgLive.cell1 hF).choose_spec rs_rely hF
    refine Goes.stop (fun w₃ h₃ => ?_)
    replace hF := rs_rely hF h₃
    clear h₃
    refine .inl ⟨rfl, _, stepG_markAt .read (by simp) rfl rfl (by k_ne) rfl H.f_raceRead (x_raceRead_n L) (x_raceRead_b L) (x_raceRead_x L) (x_raceRead_f L) (ad := ⟨Wg, 1, none⟩) (by simp [Act.eval]), 110, ?_⟩
    walk_nrm
    u_c stepG_region_end rs_rely hF
    u_c stepG_seq rs_rely hF
    u_c stepG_seq rs_rely hF
    u_reg rs_rely hF
    u_op rs_rely hF
    u_op rs_rely hF
    u_c stepG_region_end rs_rely hF
    u_cond false rs_rely hF
    u_c stepG_skip rs_rely hF
    u_c stepG_seq rs_rely hF
    u_c stepG_seq rs_rely hF
    u_reg rs_rely hF
    u_op rs_rely hF
    u_op rs_rely hF
    u_op rs_rely hF
    u_skip rs_rely hF
    u_skip rs_rely hF
    u_op rs_rely hF
    u_op rs_rely hF
    u_skip rs_rely hF
    u_skip rs_rely hF
    u_skip rs_rely hF
    u_skip rs_rely hF
    u_op rs_rely hF
    u_c stepG_region_end rs_rely hF
    u_cond false rs_rely hF
    u_c stepG_skip rs_rely hF
    u_c stepG_seq rs_rely hF
    u_c stepG_seq rs_rely hF
    u_reg rs_rely hF
    u_op rs_rely hF
    u_op rs_rely hF
    u_op rs_rely hF
    u_skip rs_rely hF
    u_skip rs_rely hF
    u_op rs_rely hF
    u_c stepG_region_end rs_rely hF
    u_cond true rs_rely hF
    u_c stepG_ret' rs_rely hF
    refine Goes.stop (fun w₄ h₄ => ?_)
    replace hF := rs_rely hF h₄
    clear h₄
    refine ⟨rfl, _, stepG_unwind_entry (v := .tuple #[]) (evs := #[mk .enable]) rfl H.f_enable (x_enable_n L) (x_enable_b L) (x_enable_x L) (x_enable_f L) (by simp [Extern.Race.none_]) (by simp [mk]) (by simp [mk]), 1, ?_⟩
    u_leave0 H.f_add rs_rely hF
    exact Goes.stop (fun _ _ => rfl)
  · -- others are counted
    obtain ⟨V, hV⟩ : ∃ V : Int, V = (v : Int) + 1 := ⟨_, rfl⟩
    obtain ⟨S, hS⟩ : ∃ S : Int, S = V * KK := ⟨_, rfl⟩
    have eS : IntKind.u64.wrap ((v : Int) * KK + 4294967296) = S := by rw [IntKind.wrap_u64, hS, hV]; simp only [KK]; omega
    rw [← hV, ← hS]
    have a1 : S / 4294967296 = V := by rw [hS]; simp only [KK]; omega
    have b1 : bits .and .u64 S 2147483648 = 0 := by
      have := st_flag (v + 1) 0 (by omega) (by omega)
      rw [hS, hV]; simpa [KK] using this
    have b2 : bits .and .u64 S 2147483647 = 0 := by
      have := st_waiters (v + 1) 0 (by omega) (by omega)
      rw [hS, hV]; simpa [KK] using this
    have c1 : IntKind.i32.wrap V = V := by rw [IntKind.wrap_i32]; omega
    have hV1 : 1 < V := by omega
    have hV2 : V < 2147483648 := by omega
    have q1 : (V == 1) = false := by simp; omega
    have q2 : decide (V = 1) = false := decide_eq_false (by omega)
    have q3 : decide (V < 0) = false := decide_eq_false (by omega)
    have q4 : decide (0 < V) = true := decide_eq_true (by omega)
    have q5 : (V == 0) = false := by simp; omega
    have q6 : decide (V = 0) = false := decide_eq_false (by omega)
    refine ⟨_, (stepG_add_atomic rfl rfl (by k_ne) rfl H.f_addU64 (x_addU64_n L) (x_addU64_b L) (x_addU64_x L) .u64 (x_addU64_f L) rfl rfl hw.cellSt (hw.thaw 0)).trans (by rw [eS]; rfl), 130, ?_⟩
    replace hF : WgLive L.tWg Wg (w₂.setCell (stA Wg) (.int .u64 S)) := ⟨_, _, hw.setSt _⟩
    clear hw hS hV eS
    walk_nrm
    u_op rs_rely hF
    u_c stepG_region_end rs_rely hF
    u_c stepG_ret' rs_rely hF
    u_leave1 H.f_uAdd rs_rely hF
    u_op rs_rely hF
    u_c stepG_region_end rs_rely hF
    u_c stepG_seq rs_rely hF
    u_c stepG_seq rs_rely hF
    u_reg rs_rely hF
    u_op rs_rely hF
    u_op rs_rely hF
    u_op rs_rely hF
    u_op rs_rely hF
    u_skip rs_rely hF
    u_skip rs_rely hF
    u_op rs_rely hF
    u_c stepG_region_end rs_rely hF
    u_cond false rs_rely hF
    u_c stepG_skip rs_rely hF
    u_c stepG_seq rs_rely hF
    u_reg rs_rely hF
    u_op rs_rely hF
    u_op rs_rely hF
    u_op rs_rely hF
    u_op rs_rely hF
    u_c stepG_region_end rs_rely hF
    u_c stepG_seq rs_rely hF
    u_reg rs_rely hF
    u_op rs_rely hF
    u_op rs_rely hF
    u_op rs_rely hF
    u_op rs_rely hF
    u_c stepG_region_end rs_rely hF
    u_c stepG_seq rs_rely hF
    u_c stepG_seq rs_rely hF
    u_reg rs_rely hF
    u_op rs_rely hF
    u_op rs_rely hF
    u_op rs_rely hF
    u_op rs_rely hF
    u_op rs_rely hF
    u_op rs_rely hF
    u_op rs_rely hF
    u_op rs_rely hF
    u_op rs_rely hF
    u_op rs_rely hF
    u_c stepG_region_end rs_rely hF
    u_cond false rs_rely hF
    u_c stepG_skip rs_rely hF
    u_c stepG_seq rs_rely hF
    u_c stepG_seq rs_rely hF
    u_reg rs_rely hF
    u_op rs_rely hF
    u_op rs_rely hF
    u_c stepG_region_end rs_rely hF
    u_cond false rs_rely hF
    u_c stepG_skip rs_rely hF
    u_c stepG_seq rs_rely hF
    u_c stepG_seq rs_rely hF
    u_reg rs_rely hF
    u_op rs_rely hF
    u_op rs_rely hF
    u_op rs_rely hF
    u_skip rs_rely hF
    u_skip rs_rely hF
    u_op rs_rely hF
    u_op rs_rely hF
    u_skip rs_rely hF
    u_skip rs_rely hF
    u_skip rs_rely hF
    u_skip rs_rely hF
    u_op rs_rely hF
    u_c stepG_region_end rs_rely hF
    u_cond false rs_rely hF
    u_c stepG_skip rs_rely hF
    u_c stepG_seq rs_rely hF
    u_c stepG_seq rs_rely hF
    u_reg rs_rely hF
    u_op rs_rely hF
    u_op rs_rely hF
    u_op rs_rely hF
    u_skip rs_rely hF
    u_skip rs_rely hF
    u_op rs_rely hF
    u_c stepG_region_end rs_rely hF
    u_cond true rs_rely hF
    u_c stepG_ret' rs_rely hF
    refine Goes.stop (fun w₄ h₄ => ?_)
    replace hF := rs_rely hF h₄
    clear h₄
    refine .inr ⟨rfl, _, stepG_unwind_entry (v := .tuple #[]) (evs := #[mk .enable]) rfl H.f_enable (x_enable_n L) (x_enable_b L) (x_enable_x L) (x_enable_f L) (by simp [Extern.Race.none_]) (by simp [mk]) (by simp [mk]), 1, ?_⟩
    u_leave0 H.f_add rs_rely hF
    exact Goes.stop (fun _ _ => rfl)
end
end Go.Proofs.Ytdafpnpfcmgfcab
