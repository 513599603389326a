/- Who has a thing: the specification's ShareWho and the program's. -/
import Derived.Test.YtdafpnpfcmgfcaaV6
namespace Go.Proofs.Ytdafpnpfcmgfcaa
open Go.RowKit Go.Maps
attribute [local go_sem] S_toList S_size S_get

def whoFrom : List Batch → Str → Str
  | [], _ => []
  | x :: r, t => if hasB x.has t then x.name else whoFrom r t
def whoOf (b : Book) (t : Str) : Str := if bookOk b then whoFrom b.batches t else []

theorem nthB_cons (x : Batch) (r : List Batch) (k : Nat) : nthB (x :: r) (k + 1) = nthB r k := by simp [nthB]
theorem nthB_zero (x : Batch) (r : List Batch) : nthB (x :: r) 0 = x := by simp [nthB]
theorem whoFrom_at : ∀ {bs : List Batch} {t : Str} {k : Nat}, k < bs.length → hasB (nthB bs k).has t = true → (∀ j, j < k → hasB (nthB bs j).has t = false) → whoFrom bs t = (nthB bs k).name
  | [], _, _, h, _, _ => by simp at h
  | x :: r, t, 0, _, h, _ => by
    rw [nthB_zero] at *
    simp [whoFrom, h]
  | x :: r, t, k + 1, hk, h, hn => by
    have h0 := hn 0 (by omega)
    rw [nthB_zero] at h0
    rw [nthB_cons] at *
    simp only [whoFrom, h0, Bool.false_eq_true, if_false]
    exact whoFrom_at (by simpa using hk) h (fun j hj => by have := hn (j + 1) (by omega); rwa [nthB_cons] at this)
theorem whoFrom_no : ∀ {bs : List Batch} {t : Str}, (∀ j, j < bs.length → hasB (nthB bs j).has t = false) → whoFrom bs t = []
  | [], _, _ => rfl
  | x :: r, t, hn => by
    have h0 := hn 0 (by simp)
    rw [nthB_zero] at h0
    simp only [whoFrom, h0, Bool.false_eq_true, if_false]
    exact whoFrom_no (fun j hj => by have := hn (j + 1) (by simpa using hj); rwa [nthB_cons] at this)

theorem ok_apart {b : Book} (h : bookOk b = true) {p q : Nat} (hp : p < b.batches.length) (hq : q < p) {t : Str} (h1 : t ∈ (nthB b.batches p).has) (h2 : t ∈ (nthB b.batches q).has) : False := by
  unfold bookOk at h
  simp only [Bool.and_eq_true, allLt_true] at h
  have h3 := (h.2 p hp).2 q hq
  simp only [Bool.not_eq_true'] at h3
  exact shareB_false.1 h3 t h1 h2
theorem ok_five {b : Book} (h : bookOk b = true) : b.batches.length ≤ 5 := by
  unfold bookOk at h
  simp only [Bool.and_eq_true, decide_eq_true_eq] at h
  exact h.1.2
theorem ok_once {b : Book} (h : bookOk b = true) : onceB b.batches = true := by
  rw [bookOk_iff] at h
  simp only [Bool.and_eq_true] at h
  exact h.2
theorem who_unique {b : Book} (h : bookOk b = true) {p : Nat} (hp : p < b.batches.length) {t : Str} (h1 : t ∈ (nthB b.batches p).has) : whoFrom b.batches t = (nthB b.batches p).name := by
  refine whoFrom_at hp (hasB_true.2 h1) (fun j hj => ?_)
  rw [← Bool.not_eq_true, hasB_true]
  exact fun h2 => ok_apart h hp hj h1 h2

theorem lit_inj {D : DataW Unit} {p c : Int} (h : D = .lit (.int .i64 p)) (k : D = .lit (.int .i64 c)) : c = p := by
  rw [h] at k
  injection k with k
  injection k with _ k
  exact k.symm
theorem ret_str {a b : Str} (h : a = b) : Ending.returned (.string (S a)) = .returned (.string (S b)) := by rw [h]

set_option maxHeartbeats 1000000 in
theorem implWho_any (b : Book) (t : Str) (a1 a2 : Option Addr) (c1 c2 : Nat) (w : World) (hb : BookAt w a1 a2 b) (htl : t.length ≤ 140737488355328) :
    Calls Try.prog 21 #[.agg #[.slice a1 b.things.length c1, .slice a2 b.batches.length c2], .string (S t)] w fun e w' =>
      e = .returned (.string (S (whoOf b t))) ∧ Ext w w' := by
  have hal : ∀ o, Ext w (w.alloc o) := fun o => (Below.refl _ _).alloc (Nat.le_refl _) _
  have hn := hb.2.1
  cases hok : bookOk b
  · have HF : Hid ([] = whoOf b t) := by show _ = _; simp [whoOf, hok]
    go_enter Try.func21, Try.ntmps21
    go_wp2_with fail
    refine (implBookOk_any b _ _ _ _ _ (hb.ext (hal _))).mono ?_
    rintro e w1 ⟨rfl, hext1⟩
    have HE1 := hid (Ext.tr (hal _) hext1)
    clear hext1
    go_wp2_with fail
    go_ret
    exact ⟨ret_str HF.out, HE1.out⟩
  · have HW : Hid (whoOf b t = whoFrom b.batches t) := by show _ = _; simp [whoOf, hok]
    go_enter Try.func21, Try.ntmps21
    go_wp2_with fail
    refine (implBookOk_any b _ _ _ _ _ (hb.ext (hal _))).mono ?_
    rintro e w1 ⟨rfl, hext1⟩
    have HE1 := hid hext1
    have hb1 := hb.ext (Ext.tr (hal _) hext1)
    clear hext1
    have hx0 := box_cell HE1.out (i := 0) rfl
    have hx1 := box_cell HE1.out (i := 1) rfl
    go_wp2_with fail
    refine (holders_any _ _ _ _ hb1.2 (ok_five hok)).mono ?_
    rintro e w2 ⟨hext2, (⟨rfl, ho⟩ | ⟨B, rfl, _, m, D, hom, _, hmap⟩)⟩
    · rw [ok_once hok] at ho; cases ho
    · have HE2 := hid (Ext.tr HE1.out hext2)
      have hb2 := hb1.ext hext2
      clear hext2 hx0 hx1
      have hx0 := box_cell HE2.out (i := 0) rfl
      have hx1 := box_cell HE2.out (i := 1) rfl
      have hkey := keyStr htl
      cases hq : hasB (keys (pairsTo b.batches b.batches.length)) t
      · have hhas : Maps.has D (.string t) = false := by rw [hmap.2.1, hq]
        have HF : Hid ([] = whoOf b t) := by
          show _ = _
          rw [HW.out]
          refine (whoFrom_no (fun j hj => ?_)).symm
          rw [← Bool.not_eq_true, hasB_true] at hq ⊢
          exact fun h => hq (mem_keys.2 ⟨j, hj, h⟩)
        clear hmap hb2
        go_wp2_with (at_lookup; refine wpList_lookup_own_ok_int _ rfl _ _ 67 rfl 9 3 .i64 lawStr Try.underlying67 Try.underlying3 (zeroInt _) B m D rfl hom _ _ rfl hkey ?_; intro c hat hwc; rw [hhas])
        go_ret
        exact ⟨ret_str HF.out, Ext.tr (hal _) HE2.out⟩
      · have hhas : Maps.has D (.string t) = true := by rw [hmap.2.1, hq]
        obtain ⟨p, hp, hmem⟩ := mem_keys.1 (hasB_true.1 hq)
        have hin : ∀ {n : Nat}, p < n → (t, p) ∈ pairsTo b.batches n := by
          intro n
          induction n with
          | zero => intro h; omega
          | succ n ih =>
            intro h
            rw [pairsTo, List.mem_append]
            by_cases e : p = n
            · subst e
              exact Or.inr (List.mem_map.2 ⟨t, hmem, rfl⟩)
            · exact Or.inl (ih (by omega))
        have hat := hmap.2.2 t p (.lit (.int .i64 0)) (hin hp)
        have HF : Hid ((nthB b.batches p).name = whoOf b t) := by
          show _ = _
          rw [HW.out]; exact (who_unique hok hp hmem).symm
        obtain ⟨ba, oa, rfl, hl, d1, g1, d2, g2, p0, p1, p2, s1, s2⟩ := hb2.2.2 p hp
        have HAT := hid hat
        clear hmap hb2 hin hat hb1 hb
        go_wp2_with (at_lookup; refine wpList_lookup_own_ok_int _ rfl _ _ 67 rfl 9 3 .i64 lawStr Try.underlying67 Try.underlying3 (zeroInt _) B m D rfl hom _ _ rfl hkey ?_; intro c hat hwc; rw [hhas, lit_inj HAT.out hat])
        go_ret
        exact ⟨ret_str HF.out, Ext.tr (hal _) HE2.out⟩
end Go.Proofs.Ytdafpnpfcmgfcaa
