/- The walk over the specification's ShareBookOk. -/
import Derived.Test.YtdafpnpfcmgfcabW8
namespace Go.Proofs.Ytdafpnpfcmgfcab
open Go.RowKit
attribute [local go_sem] S_toList S_size S_get

def goodB (b : Book) (i : Nat) : Bool := batchOk b i && allLt i (fun k => !shareB (b.at i).has (b.at k).has)
theorem bookOk_no1 {b : Book} (h : thingsOk b.things = false) : bookOk b = false := by simp [bookOk, h]
theorem bookOk_no2 {b : Book} (h : ¬ b.batches.length ≤ 5) : bookOk b = false := by simp [bookOk, h]
theorem bookOk_no3 {b : Book} {i : Nat} (hi : i < b.batches.length) (h : goodB b i = false) : bookOk b = false := by
  unfold bookOk; rw [allLt_no (p := fun i => batchOk b i && allLt i (fun k => !shareB (b.at i).has (b.at k).has)) hi h]; simp
theorem bookOk_yes {b : Book} (h1 : thingsOk b.things = true) (h2 : b.batches.length ≤ 5) (h3 : ∀ i, i < b.batches.length → goodB b i = true) : bookOk b = true := by
  unfold bookOk; rw [allLt_of (p := fun i => batchOk b i && allLt i (fun k => !shareB (b.at i).has (b.at k).has)) h3, h1]; simp [h2]
theorem goodB_no {b : Book} {i : Nat} (h : batchOk b i = false) : goodB b i = false := by simp [goodB, h]
theorem goodB_no' {b : Book} {i k : Nat} (hk : k < i) (h : shareB (b.at i).has (b.at k).has = true) : goodB b i = false := by
  unfold goodB; rw [allLt_no (p := fun k => !shareB (b.at i).has (b.at k).has) hk (by simp [h])]; simp

theorem box_cell {w wr : World} {c : Array Value} {T : TypeId} (h : Ext (w.alloc (.cells c T)) wr) {i : Nat} {v : Value} (hi : c[i]? = some v) : wr.cell? ⟨w.heap.size, i, none⟩ = some v := by
  refine Ext.keep h ?_
  have hh : (w.alloc (.cells c T)).heap[w.heap.size]? = some (.cells c T) := Go.Deep.blk_alloc_new _ _
  unfold World.cell?
  simp only [hh]
  exact hi
theorem ext_alloc (w : World) (o : Obj) : Ext w (w.alloc o) := (Below.refl _ _).alloc (Nat.le_refl _) _


theorem draws_ext {W wq : World} (h : ∃ n, wq = W.drewN n) : Ext W wq := by obtain ⟨n, rfl⟩ := h; exact ext_drewN _ _
theorem draws_cell {W wq : World} (h : ∃ n, wq = W.drewN n) {p : Addr} {v : Value} (hc : W.cell? p = some v) : wq.cell? p = some v := (draws_ext h).keep hc

theorem l1Share_v (a b : Option Addr) (ca cb : Nat) (sa sb : List Str) (v : Bool) (w : World) (ha : StrsAt w a sa) (hb : StrsAt w b sb) (hv : shareB sa sb = v) :
    Calls Qry.prog 30 #[.slice a sa.length ca, .slice b sb.length cb] w fun e w' => e = .returned (.bool v) ∧ w' = w := by
  rw [← hv]; exact l1Share_any a b ca cb sa sb w ha hb

theorem l1NamesOk_v (a b : Option Addr) (ca cb : Nat) (sa sb : List Str) (v : Bool) (w : World) (ha : StrsAt w a sa) (hb : StrsAt w b sb) (hv : namesOk sa sb = v) :
    Calls Qry.prog 36 #[.slice a sa.length ca, .slice b sb.length cb] w fun e w' => e = .returned (.bool v) ∧ ∃ n, w' = w.drewN n := by
  rw [← hv]; exact l1NamesOk_any a b ca cb sa sb w ha hb
theorem l1NameOk_v (s : Str) (v : Bool) (w : World) (hs : s.length ≤ 140737488355328) (hv : nameOk s = v) :
    Calls Qry.prog 35 #[.string (S s)] w fun e w' => e = .returned (.bool v) ∧ w' = w := by
  rw [← hv]; exact l1NameOk_any s w hs

set_option maxHeartbeats 1000000 in
theorem specBookOk_any (b : Book) (a1 a2 : Option Addr) (c1 c2 : Nat) (w : World) (hb : BookAt w a1 a2 b) :
    Calls Qry.prog 18 #[.agg #[.slice a1 b.things.length c1, .slice a2 b.batches.length c2]] w fun e w' =>
      e = .returned (.bool (bookOk b)) ∧ Ext w w' := by
  have hal : ∀ o, Ext w (w.alloc o) := fun o => (Below.refl _ _).alloc (Nat.le_refl _) _
  obtain ⟨ht, hbs⟩ := hb
  have hn := hbs.1
  cases hth : thingsOk b.things
  · have HF : Hid (bookOk b = false) := bookOk_no1 hth
    go_enter Qry.func18, Try.ntmps18
    go_wp2_with fail
    refine (l1ThingsOk_any _ _ _ _ (ht.ext (hal _))).mono ?_
    rintro e w1 ⟨rfl, n1, rfl⟩
    go_wp2_with fail
    go_ret
    exact ⟨ret_bool HF.out.symm, Ext.tr (hal _) (ext_drewN _ _)⟩
  · by_cases h5 : b.batches.length ≤ 5
    · go_enter Qry.func18, Try.ntmps18
      go_wp2_with fail
      refine (l1ThingsOk_any _ _ _ _ (ht.ext (hal _))).mono ?_
      rintro e w1 ⟨rfl, hq⟩
      have hex : Ext (w.alloc (.cells #[.slice a1 b.things.length c1, .slice a2 b.batches.length c2] 30)) w1 := by obtain ⟨n1, e⟩ := hq; rw [e]; exact ext_drewN _ _
      have hx0 := box_cell hex (i := 0) rfl
      have hx1 := box_cell hex (i := 1) rfl
      clear hq
      go_wp2_with fail
      go_loopw [3] (fun i wr => ∃ k : Nat, k ≤ b.batches.length ∧ i = .int .i64 k ∧ Ext (w.alloc (.cells #[.slice a1 b.things.length c1, .slice a2 b.batches.length c2] 30)) wr ∧ ∀ j, j < k → goodB b j = true) (fun i _ => b.batches.length - (intOf i).toNat)
      case atStart => exact ⟨0, Nat.zero_le _, rfl, hex, fun j hj => by omega⟩
      case round =>
        obtain ⟨k, hk, rfl, hext, hx⟩ := hrel
        clear hx0 hx1 hex
        have hx0 := box_cell hext (i := 0) rfl
        have hx1 := box_cell hext (i := 1) rfl
        have ht' := ht.ext (Ext.tr (hal _) hext)
        have hbs' := hbs.ext (Ext.tr (hal _) hext)
        have HX : Hid (∀ j, j < k → goodB b j = true) := hx
        have HE : Hid (Ext w wr) := Ext.tr (hal _) hext
        have HE0 : Hid (Ext (w.alloc (.cells #[.slice a1 b.things.length c1, .slice a2 b.batches.length c2] 30)) wr) := hext
        clear hx hext
        by_cases hlt : k < b.batches.length
        · obtain ⟨ba, oa, rfl, hl, d1, g1, d2, g2, p0, p1, p2, s1, s2⟩ := hbs'.2 k hlt
          cases hname : nameOk (nthB b.batches k).name
          · have HF : Hid (bookOk b = false) := bookOk_no3 hlt (goodB_no (by unfold batchOk; unfold Book.at; rw [hname]; rfl))
            go_wp2_with fail
            go_quiet ((go_at_call 35; exact Calls.quiet_of_same (l1NameOk_v _ _ _ hl hname)))
            go_wp2
            go_ret
            exact ⟨ret_bool HF.out.symm, Ext.tr HE.out (Ext.tr (ext_alloc _ _) (ext_drewN _ _))⟩
          · have hx0' : ∀ o, (wr.alloc o).cell? ⟨w.heap.size, 0, none⟩ = some (.slice a1 b.things.length c1) := fun o => (ext_alloc _ _).keep hx0
            have hx1' : ∀ o, (wr.alloc o).cell? ⟨w.heap.size, 1, none⟩ = some (.slice (some ⟨ba, oa, none⟩) b.batches.length c2) := fun o => (ext_alloc _ _).keep hx1
            have t1 : StrsAt (wr.alloc (.cells #[.string (S (nthB b.batches k).name), .slice d1 (nthB b.batches k).has.length g1, .slice d2 (nthB b.batches k).needs.length g2] 43)) d1 (nthB b.batches k).has := s1.ext (ext_alloc _ _)
            have t2 : StrsAt (wr.alloc (.cells #[.string (S (nthB b.batches k).name), .slice d1 (nthB b.batches k).has.length g1, .slice d2 (nthB b.batches k).needs.length g2] 43)) d2 (nthB b.batches k).needs := s2.ext (ext_alloc _ _)
            have t3 : StrsAt (wr.alloc (.cells #[.string (S (nthB b.batches k).name), .slice d1 (nthB b.batches k).has.length g1, .slice d2 (nthB b.batches k).needs.length g2] 43)) a1 b.things := ht'.ext (ext_alloc _ _)
            have hcase : (decide (0 < k) = false ∧ Hid (upB b k = true)) ∨ (decide (0 < k) = true ∧ ∃ (q : Nat) (nm : Str), IntKind.i64.wrap ((k : Int) - 1) = (q : Int) ∧ q < b.batches.length ∧ (∀ o, (wr.alloc o).cell? ⟨ba, oa + q * 3, none⟩ = some (.string (S nm))) ∧ Hid (upB b k = Op.bytesLess nm (nthB b.batches k).name)) := by
              by_cases h0 : k = 0
              · exact Or.inl ⟨by simp; omega, by show _ = true; simp [upB, h0]⟩
              · refine Or.inr ⟨by simp; omega, k - 1, (nthB b.batches (k - 1)).name, by rw [IntKind.wrap_i64]; omega, by omega, ?_, by show _ = _; simp [upB, h0, Book.at]⟩
                obtain ⟨ba', oa', e', _, _, _, _, _, q0, _⟩ := hbs'.2 (k - 1) (by omega)
                injection e' with e'; injection e' with e1 e2; subst e1 e2
                exact fun o => (ext_alloc _ _).keep q0
            rcases hcase with ⟨hd, HU⟩ | ⟨hd, q, nm, hwq, hqn, hprev, HU⟩
            rotate_left
            cases hu : Op.bytesLess nm (nthB b.batches k).name
            · have HF : Hid (bookOk b = false) := bookOk_no3 hlt (goodB_no (by unfold batchOk; rw [HU.out, hu]; simp))
              go_wp2_with fail
              go_quiet ((go_at_call 35; exact Calls.quiet_of_same (l1NameOk_v _ _ _ hl hname)))
              go_wp2
              go_ret
              exact ⟨ret_bool HF.out.symm, Ext.tr HE.out (Ext.tr (ext_alloc _ _) (ext_drewN _ _))⟩
            rotate_left
            all_goals
              cases hneeds : namesOk (nthB b.batches k).needs b.things
              · have HF : Hid (bookOk b = false) := bookOk_no3 hlt (goodB_no (by unfold batchOk; unfold Book.at; rw [hneeds]; simp))
                go_wp2_with fail
                go_quiet ((first | (go_at_call 35; exact Calls.quiet_of_same (l1NameOk_v _ _ _ hl hname)) | (go_at_call 36; exact Calls.quiet_of (l1NamesOk_v _ _ _ _ _ _ _ _ (t2.drewN _) (t3.drewN _) hneeds))))
                go_wp2
                go_ret
                exact ⟨ret_bool HF.out.symm, Ext.tr HE.out (Ext.tr (ext_alloc _ _) (ext_drewN _ _))⟩
              · cases hhas : namesOk (nthB b.batches k).has (nthB b.batches k).needs
                · have HF : Hid (bookOk b = false) := bookOk_no3 hlt (goodB_no (by unfold batchOk; unfold Book.at; rw [hhas]; simp))
                  go_wp2_with fail
                  go_quiet ((first | (go_at_call 35; exact Calls.quiet_of_same (l1NameOk_v _ _ _ hl hname)) | (go_at_call_of 36 (b.things); exact Calls.quiet_of (l1NamesOk_v _ _ _ _ _ _ _ _ (t2.drewN _) (t3.drewN _) hneeds)) | (go_at_call 36; exact Calls.quiet_of (l1NamesOk_v _ _ _ _ _ _ _ _ (t1.drewN _) (t2.drewN _) hhas))))
                  go_wp2
                  go_ret
                  exact ⟨ret_bool HF.out.symm, Ext.tr HE.out (Ext.tr (ext_alloc _ _) (ext_drewN _ _))⟩
                · have HG : Hid (batchOk b k = true) := by
                    show _ = true
                    unfold batchOk; rw [HU.out]; unfold Book.at; rw [hname, hneeds, hhas]; first | rfl | (rw [hu]; rfl)
                  go_wp2_with fail
                  go_quiet ((first | (go_at_call 35; exact Calls.quiet_of_same (l1NameOk_v _ _ _ hl hname)) | (go_at_call_of 36 (b.things); exact Calls.quiet_of (l1NamesOk_v _ _ _ _ _ _ _ _ (t2.drewN _) (t3.drewN _) hneeds)) | (go_at_call 36; exact Calls.quiet_of (l1NamesOk_v _ _ _ _ _ _ _ _ (t1.drewN _) (t2.drewN _) hhas))))
                  go_wp2
                  have hbx := box_cell (Ext.rfl' (wr.alloc (.cells #[.string (S (nthB b.batches k).name), .slice d1 (nthB b.batches k).has.length g1, .slice d2 (nthB b.batches k).needs.length g2] 43))) (i := 1) rfl
                  go_loopw [5] (fun kk wq => ∃ m : Nat, m ≤ k ∧ kk = .int .i64 m ∧ (∃ n, wq = (wr.alloc (.cells #[.string (S (nthB b.batches k).name), .slice d1 (nthB b.batches k).has.length g1, .slice d2 (nthB b.batches k).needs.length g2] 43)).drewN n) ∧ ∀ j, j < m → shareB (nthB b.batches k).has (nthB b.batches j).has = false) (fun kk _ => k - (intOf kk).toNat)
                  case atStart => exact ⟨0, Nat.zero_le _, rfl, ⟨_, rfl⟩, fun j hj => by omega⟩
                  case round =>
                    obtain ⟨m, hm, rfl, hq, hy⟩ := hrel
                    have HY : Hid (∀ j, j < m → shareB (nthB b.batches k).has (nthB b.batches j).has = false) := hy
                    have HW := hid hq
                    have y1 := draws_cell hq (hx1' _)
                    have y2 := draws_cell hq hbx
                    have t1q := t1.draws hq
                    clear hy
                    by_cases hmk : m < k
                    · obtain ⟨ba', oa', e', _, e1, f1, _, _, _, q1, _, t4, _⟩ := hbs'.2 m (by omega)
                      injection e' with e'; injection e' with ee1 ee2; subst ee1 ee2
                      have q1q := draws_cell hq ((ext_alloc _ _).keep q1)
                      have t4q := (t4.ext (ext_alloc _ _)).draws hq
                      have hmn : m < b.batches.length := by omega
                      clear hq q1 t4
                      cases hsh : shareB (nthB b.batches k).has (nthB b.batches m).has
                      · have HQ : Hid (shareB (nthB b.batches k).has (nthB b.batches m).has = false) := hsh
                        go_wp2
                        go_quiet ((go_at_call 30; exact Calls.quiet_of_same (l1Share_v _ _ _ _ _ _ _ _ (t1q.drewN _) (t4q.drewN _) hsh)))
                        go_wp2
                        have HZ : ∀ j, j < m + 1 → shareB (nthB b.batches k).has (nthB b.batches j).has = false := fun j hj => by
                          by_cases e : j = m
                          · rw [e]; exact HQ.out
                          · exact HY.out j (by omega)
                        go_roundw
                        case rel => exact ⟨m + 1, by omega, by go_num, drewN_tr HW.out ⟨_, rfl⟩, HZ⟩
                        case measure => simp [intOf]; omega
                      · have HF : Hid (bookOk b = false) := bookOk_no3 hlt (goodB_no' hmk hsh)
                        go_wp2
                        go_quiet ((go_at_call 30; exact Calls.quiet_of_same (l1Share_v _ _ _ _ _ _ _ _ (t1q.drewN _) (t4q.drewN _) hsh)))
                        go_wp2
                        go_ret
                        exact ⟨ret_bool HF.out.symm, Ext.tr HE.out (Ext.tr (ext_alloc _ _) (draws_ext (drewN_tr HW.out ⟨_, rfl⟩)))⟩
                    · have HK : Hid (goodB b k = true) := by
                        show _ = true
                        unfold goodB; rw [HG.out, allLt_of (fun j hj => by have := HY.out j (by omega); unfold Book.at; rw [this]; rfl)]; rfl
                      clear hq
                      go_wp2
                      go_roundw
                      case rel => exact ⟨k + 1, by omega, by go_num, Ext.tr HE0.out (Ext.tr (ext_alloc _ _) (draws_ext HW.out)), fun j hj => by
                        by_cases e : j = k
                        · rw [e]; exact HK.out
                        · exact HX.out j (by omega)⟩
                      case measure => simp [intOf]; omega
        · have HF : Hid (bookOk b = true) := bookOk_yes hth h5 (fun j hj => HX.out j (by omega))
          go_wp2
          go_ret
          exact ⟨ret_bool HF.out.symm, HE.out⟩
    · have HF : Hid (bookOk b = false) := bookOk_no2 h5
      go_enter Qry.func18, Try.ntmps18
      go_wp2_with fail
      refine (l1ThingsOk_any _ _ _ _ (ht.ext (hal _))).mono ?_
      rintro e w1 ⟨rfl, n1, rfl⟩
      go_wp2_with fail
      go_ret
      exact ⟨ret_bool HF.out.symm, Ext.tr (hal _) (ext_drewN _ _)⟩
end Go.Proofs.Ytdafpnpfcmgfcab
