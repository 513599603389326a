/- The program's small functions of chapter 3 on lists: copied, kept, picked. -/
import Derived.Test.YtdafpnpfcmgfcabGreatDoorE1
import Derived.Test.YtdafpnpfcmgfcabGreatDoorS1
namespace Go.Proofs.YtdafpnpfcmgfcabGreatDoor
open Go.RowKit
attribute [local go_sem] S_toList S_size S_get

theorem wpList_list {ops : Array Oper} {rest : List Oper} {o : Oper} {a : Act} {w : World} {Q : Exit → Act → World → Prop} (hgd : o.guard = none) (s x : Operand)
    (ho : o.op = .call { callee := .builtin .append, args := #[s, x], argTypes := #[53, 53] })
    {base : Nat} {v : Value} {L : List Str} (hs : a.eval s = v) (hown : OwnL w base v L) {src : Option Addr} {m c : Nat} {M : List Str} (hx : a.eval x = .slice src m c) (hm : M.length = m) (hM : StrsAt w src M)
    (hlen : L.length + M.length ≤ 8796093022208) (hbase : base ≤ w.heap.size)
    (h : ∀ v' w', OwnL w' base v' (L ++ M) → w.grownBy w' v.ownBlock → (v'.ownBlock = v.ownBlock ∨ v'.ownBlock = some w.heap.size) → wpList Tryz.prog ops Q rest (a.put o.dst v') w') : wpList Tryz.prog ops Q (o :: rest) a w := by
  subst hm
  obtain ⟨i0, hi, hz0, hz1, hz2⟩ := info_str
  exact wpList_plain hgd fun _ hK => wp_app w s x 53 ho base 9 i0 (.string (S [])) 1 16 Tryz.underlying53 hi hz0 hz1 hz2 rfl (by decide) v _ _ hs hown src M.length c _ hx (by simp) (strs_cells hM) (by simp [Value.oneCell']) (by unfold maxLen; omega) (by omega) hbase (fun v' w' h2 h3 h4 => hK _ _ (h v' w' (OwnL.app h2) h3 h4))

set_option maxHeartbeats 400000 in
theorem copied_any (a : Option Addr) (c : Nat) (ss : List Str) (w : World) (h : StrsAt w a ss) :
    Calls Tryz.prog 58 #[.slice a ss.length c] w fun e w' => ∃ v, e = .returned v ∧ Ext w w' ∧ OwnL w' w.heap.size v ss := by
  have hx := h.1
  have HO : Hid (OwnL w w.heap.size (.slice none 0 0) []) := World.ownsRow_nil _ _ _ _
  have HS := hid h
  go_enter Tryz.func58, Tryz.ntmps58
  go_wp2_with (at_builtin; refine wpList_list rfl _ _ rfl rfl HO.out rfl rfl HS.out ?q1 ?q2 ?_)
  case q1 => simp; omega
  case q2 => simp
  · intro v' w' hown hgrow _
    have HN := hid hown
    have HE : Hid (Ext w w') := (Below.refl _ _).grown hgrow (by simp) (fun g hg => by simp [Value.ownBlock] at hg)
    clear hown hgrow
    go_wp2
    go_ret
    exact ⟨v', rfl, HE.out, HN.out⟩

theorem kept_take {l o : List Str} {k : Nat} (h : k < l.length) : keptL (l.take (k + 1)) o = keptL (l.take k) o ++ (if hasB o (nth l k) then [nth l k] else []) := by
  unfold keptL
  rw [List.take_succ_eq_append_getElem h, List.filter_append, nth_get h]
  congr 1
  cases hq : hasB o l[k] <;> simp [hq]
theorem kept_len (l o : List Str) : (keptL l o).length ≤ l.length := List.length_filter_le _ _
theorem one_strN (w : World) (x : Str) (h : x.length ≤ 140737488355328) : StrsAt (w.alloc (.cells #[.string (S x)] 9)) (some ⟨w.heap.size, 0, none⟩) [x] :=
  ⟨by simp, fun i hi => by
    have e : i = 0 := by simp at hi; exact hi
    subst e
    exact ⟨h, _, _, rfl, by simp [nth]⟩⟩
set_option maxHeartbeats 1000000 in
theorem kept_any (a b : Option Addr) (ca cb : Nat) (ss os : List Str) (w : World) (h : StrsAt w a ss) (hb : StrsAt w b os) :
    Calls Tryz.prog 59 #[.slice a ss.length ca, .slice b os.length cb] w fun e w' => ∃ v, e = .returned v ∧ Ext w w' ∧ OwnL w' w.heap.size v (keptL ss os) := by
  have hx := h.1
  go_enter Tryz.func59, Tryz.ntmps59
  go_wp2
  go_loopw [5, 10] (fun o i wr => ∃ (k : Nat), k ≤ ss.length ∧ i = .int .i64 k ∧ Ext w wr ∧ OwnL wr w.heap.size o (keptL (ss.take k) os)) (fun _ i _ => ss.length - (intOf i).toNat)
  case atStart => exact ⟨0, Nat.zero_le _, rfl, Ext.rfl' _, World.ownsRow_nil _ _ _ _⟩
  case round =>
    obtain ⟨k, hk, rfl, hext, hown⟩ := hrel
    have HE := hid hext
    have HO := hid hown
    have h' := h.ext hext
    have hb' := hb.ext hext
    clear hext hown
    by_cases hlt : k < ss.length
    · obtain ⟨hl, ba, oa, rfl, hc⟩ := h'.2 k hlt
      have hkt := kept_take (o := os) hlt
      have hle := kept_len (ss.take k) os
      rw [List.length_take] at hle
      cases hq : hasB os (nth ss k)
      · have HK : Hid (keptL (ss.take (k + 1)) os = keptL (ss.take k) os) := by show _ = _; rw [hkt, hq]; simp
        clear hkt
        go_wp2_with (go_at_call 75; refine (slicesContains_any _ _ _ _ _ hb').mono ?_; rintro e w' ⟨rfl, rfl⟩; rw [hq])
        go_roundw
        case rel => exact ⟨k + 1, by omega, by go_num, HE.out, by rw [HK.out]; exact HO.out⟩
        case measure => simp [intOf]; omega
      · have HK : Hid (keptL (ss.take (k + 1)) os = keptL (ss.take k) os ++ [nth ss k]) := by show _ = _; rw [hkt, hq]; simp
        clear hkt
        have hzr := HE.out.size
        have HO1 := hid (HO.out.ext (ext_alloc wr (.cells #[.string (S (nth ss k))] 9)))
        have HS1 := hid (one_strN wr (nth ss k) hl)
        have HL := hid hle
        clear hle
        generalize keptL (ss.take k) os = L at *
        go_wp2_with (first | (go_at_call 75; refine (slicesContains_any _ _ _ _ _ hb').mono ?_; rintro e w' ⟨rfl, rfl⟩; rw [hq]) | (at_builtin; refine wpList_list rfl _ _ rfl rfl HO1.out rfl rfl HS1.out ?q1 ?q2 ?_))
        case q1 => have := HL.out; simp; omega
        case q2 => simp; omega
        intro v' w' ho' hg' _
        have HN := hid ho'
        have HE' : Hid (Ext w w') := ((HE.out.alloc hzr _).grown hg' (by simp; omega) (fun g hg => (HO.out.lt g hg).1))
        clear ho' hg'
        go_wp2
        go_roundw
        case rel => exact ⟨k + 1, by omega, by go_num, HE'.out, by rw [HK.out]; exact HN.out⟩
        case measure => simp [intOf]; omega
    · have e : k = ss.length := by omega
      subst e
      rw [List.take_length] at HO
      go_wp2
      go_ret
      exact ⟨_, rfl, HE.out, HO.out⟩

theorem part_asc {l all : List Str} : (partB l all && ascB l) = namesOk l all := by
  rw [Bool.eq_iff_iff, Bool.and_eq_true, namesOk_iff, asc_iff]
  unfold partB
  rw [allLt_true]
  constructor
  · rintro ⟨h1, h2⟩
    refine ⟨h2, fun x hx => ?_⟩
    obtain ⟨i, hi, e⟩ := List.getElem_of_mem hx
    have := h1 i hi
    rw [hasB_true, nth_get hi, e] at this; exact this
  · rintro ⟨h1, h2⟩
    exact ⟨fun i hi => by rw [hasB_true, nth_get hi]; exact h2 _ (List.getElem_mem hi), h1⟩
set_option maxHeartbeats 400000 in
theorem picked_v (a b : Option Addr) (ca cb : Nat) (sa sb : List Str) (v : Bool) (w : World) (ha : StrsAt w a sa) (hb : StrsAt w b sb) (hv : namesOk sa sb = v) :
    Calls Tryz.prog 105 #[.slice a sa.length ca, .slice b sb.length cb] w fun e w' => e = .returned (.bool v) ∧ ∃ n, w' = w.drewN n := by
  rw [← part_asc] at hv
  cases hp : partB sa sb
  · have HV : Hid (v = false) := by show _ = _; rw [← hv, hp]; simp
    clear hv
    go_enter Tryz.func105, Tryz.ntmps105
    go_wp2_with (go_at_call 78; refine (isPartOf_v _ _ _ _ _ _ _ _ ha hb hp).mono ?_; rintro e w' ⟨rfl, rfl⟩)
    go_ret
    rw [HV.out]
    exact ⟨rfl, 0, rfl⟩
  · have HV : Hid (v = ascB sa) := by show _ = _; rw [← hv, hp]; simp
    clear hv
    go_enter Tryz.func105, Tryz.ntmps105
    go_wp2_with (go_at_call 78; refine (isPartOf_v _ _ _ _ _ _ _ _ ha hb hp).mono ?_; rintro e w' ⟨rfl, rfl⟩)
    refine (ascending_v _ _ _ v _ ha HV.out.symm).mono ?_
    rintro e w1 ⟨rfl, n, rfl⟩
    go_wp2_with fail
    go_ret
    exact ⟨rfl, n, rfl⟩
end Go.Proofs.YtdafpnpfcmgfcabGreatDoor
