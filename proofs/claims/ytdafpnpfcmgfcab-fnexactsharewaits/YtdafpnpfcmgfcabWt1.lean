/- Those on whom somebody waits: the specification. -/
import Derived.Test.YtdafpnpfcmgfcabMv1
namespace Go.Proofs.Ytdafpnpfcmgfcab
open Go.RowKit
attribute [local go_sem] S_toList S_size S_get

/-- Batch i has something that the one at p needs, and is another. -/
def waitY (b : Book) (p i : Nat) : Bool := !(i == p) && shareB (nthB b.batches i).has (nthB b.batches p).needs
def waitsL (b : Book) (x : Str) : List Str := if bookOk b = true ∧ place (namesOf b.batches) x < b.batches.length then pickL (waitY b (place (namesOf b.batches) x)) b.batches b.batches.length else []

set_option maxHeartbeats 2000000 in
set_option maxRecDepth 100000 in
theorem specWaits_any (b : Book) (x : Str) (a1 a2 : Option Addr) (c1 c2 : Nat) (w : World) (hb : BookAt w a1 a2 b) :
    Calls Qry.prog 14 #[.agg #[.slice a1 b.things.length c1, .slice a2 b.batches.length c2], .string (S x)] w fun e w' =>
      ∃ a cap, e = .returned (.slice a (waitsL b x).length cap) ∧ Ext w w' ∧ StrsAt w' a (waitsL b x) := by
  have hal : ∀ o, Ext w (w.alloc o) := fun o => (Below.refl _ _).alloc (Nat.le_refl _) _
  have hn := hb.2.1
  obtain ⟨i0, hi, hz0, hz1, hz2⟩ := info_str
  have HOW : Hid (OwnL ((w.alloc (.cells #[.slice a1 b.things.length c1, .slice a2 b.batches.length c2] 30)).alloc (.cells #[] 9)) (w.heap.size + 1) (.slice (some ⟨w.heap.size + 1, 0, none⟩) 0 0) []) := by
    have h := World.ownsRow_made (base := w.heap.size + 1) (e := 9) (size := 1) (w.alloc (.cells #[.slice a1 b.things.length c1, .slice a2 b.batches.length c2] 30)) #[] 0 (by simp) (by unfold maxLen; omega) (by simp)
    have hs : (w.alloc (.cells #[.slice a1 b.things.length c1, .slice a2 b.batches.length c2] 30)).heap.size = w.heap.size + 1 := by simp
    rw [hs] at h
    exact h
  have HB1 : Hid (Below (w.heap.size + 1) (w.alloc (.cells #[.slice a1 b.things.length c1, .slice a2 b.batches.length c2] 30)) ((w.alloc (.cells #[.slice a1 b.things.length c1, .slice a2 b.batches.length c2] 30)).alloc (.cells #[] 9))) :=
    (Below.refl _ _).alloc (by simp) _
  have hbW := hb.ext (Ext.tr (hal _) (Below.mono HB1.out (by simp)))
  have hx0 := box_cell (Below.mono HB1.out (by simp)) (i := 0) rfl
  have hx1 := box_cell (Below.mono HB1.out (by simp)) (i := 1) rfl
  go_enter Qry.func14, Try.ntmps14
  go_wp2_with fail
  by_cases hpl : place (namesOf b.batches) x < b.batches.length
  · generalize hpe : place (namesOf b.batches) x = p at hpl
    have HML : Hid (bookOk b = true → waitsL b x = pickL (waitY b p) b.batches b.batches.length) := fun h => by simp [waitsL, h, hpe, hpl]
    have HMN : Hid (bookOk b = false → waitsL b x = []) := fun h => by simp [waitsL, h]
    refine (l1At_yes b x p _ _ _ _ _ hbW hpe hpl).mono ?_
    rintro e w1 ⟨rfl, hE1⟩
    have HOW1 := hid (HOW.out.kp hE1)
    have HB2 : Hid (Below (w.heap.size + 1) (w.alloc (.cells #[.slice a1 b.things.length c1, .slice a2 b.batches.length c2] 30)) w1) := Below.trans HB1.out (Below.mono hE1 (by simp))
    clear hE1 hx0 hx1 hbW hpe HOW HB1
    have hp0 : ¬ ((p : Int) < 0) := by omega
    go_wp2_with fail
    go_loopw [5, 7] (fun v i wr => ∃ (k : Nat), k ≤ b.batches.length ∧ i = .int .i64 k ∧ (bookOk b = true ∨ k = 0) ∧ Below (w.heap.size + 1) (w.alloc (.cells #[.slice a1 b.things.length c1, .slice a2 b.batches.length c2] 30)) wr ∧ OwnL wr (w.heap.size + 1) v (pickL (waitY b p) b.batches k)) (fun _ i _ => b.batches.length - (intOf i).toNat)
    case atStart => exact ⟨0, Nat.zero_le _, rfl, .inr rfl, HB2.out, HOW1.out⟩
    case round =>
      obtain ⟨k, hk, rfl, hokk, hbel, hown⟩ := hrel
      have HKK := hid hokk
      clear hokk
      have hx0 := box_cell (Below.mono hbel (by simp)) (i := 0) rfl
      have hx1 := box_cell (Below.mono hbel (by simp)) (i := 1) rfl
      have hb' := hb.ext (Ext.tr (hal _) (Below.mono hbel (by simp)))
      have hz := hbel.size
      simp at hz
      have HB := hid hbel
      have HO := hid hown
      have hle := pickL_len (waitY b p) b.batches k
      have HSH := hid (pickL_short hb.2 (waitY b p) k hk)
      clear hbel hown
      obtain ⟨ag, cg, rfl, hat⟩ := HO.out.at (by omega) HSH.out
      have HAT := hid hat
      clear hat
      by_cases hlt : k < b.batches.length
      · cases hok : bookOk b
        · have hk0 : k = 0 := HKK.out.resolve_left (by rw [hok]; simp)
          subst hk0
          go_wp2_with fail
          refine (specBookOk_any b _ _ _ _ _ hb').mono ?_
          rintro e w1 ⟨rfl, hext1⟩
          rw [hok]
          have HE1 := hid (Ext.tr (hal _) (Ext.tr (Below.mono HB.out (by simp)) hext1))
          have HAT1 := hid (HAT.out.ext hext1)
          clear hext1
          go_wp2_with fail
          go_ret
          refine ⟨ag, cg, ?_, HE1.out, ?_⟩
          · rw [HMN.out hok]; rfl
          · rw [HMN.out hok]; exact HAT1.out
        · have HOK := hid hok
          go_wp2_with fail
          refine (specBookOk_any b _ _ _ _ _ hb').mono ?_
          rintro e w1 ⟨rfl, hext1⟩
          rw [HOK.out]
          have hb1 := hb'.ext hext1
          have HO1 := hid (HO.out.kp hext1)
          have HB2 : Hid (Below (w.heap.size + 1) (w.alloc (.cells #[.slice a1 b.things.length c1, .slice a2 b.batches.length c2] 30)) w1) := Below.trans HB.out (Below.mono hext1 (by omega))
          have hzz1 := hext1.size
          clear hx0 hx1 hext1 hb' HB HO HAT hok
          have hx0 := box_cell (Below.mono HB2.out (by simp)) (i := 0) rfl
          have hx1 := box_cell (Below.mono HB2.out (by simp)) (i := 1) rfl
          obtain ⟨ba, oa, rfl, hl, d1, g1, d2, g2, p0, p1, p2, s1, s2⟩ := hb1.2.2 k hlt
          obtain ⟨ba', oa', e', _, f1, h1, f2, h2, r0, r1, r2, u1, u2⟩ := hb1.2.2 p hpl
          injection e' with e'; injection e' with e1 e2; subst e1 e2
          by_cases hka : k = p
          · have HP : Hid (pickL (waitY b p) b.batches (k + 1) = pickL (waitY b p) b.batches k) := pickL_no (by simp [waitY, hka])
            have hd : ((k : Int) != (p : Int)) = false := by simp; omega
            clear hka
            go_wp2
            go_quiet (fail)
            go_wp2
            go_roundw
            case rel => exact ⟨k + 1, by omega, by go_num, (by first | exact .inl HOK.out | exact .inl trivial), Below.trans HB2.out (Below.mono (ext_drewN _ _) (by omega)), by rw [HP.out]; exact HO1.out.kp (ext_drewN _ _)⟩
            case measure => simp [intOf]; omega
          · have hd : ((k : Int) != (p : Int)) = true := by simp; omega
            have hkp : (k == p) = false := by simp [hka]
            have HKP := hid hkp
            clear hka hkp
            cases hs : shareB (nthB b.batches k).has (nthB b.batches p).needs
            · have HP : Hid (pickL (waitY b p) b.batches (k + 1) = pickL (waitY b p) b.batches k) := pickL_no (by simp [waitY, hs])
              go_wp2
              go_quiet ((go_at_call 30; exact Calls.quiet_of_same (l1Share_v _ _ _ _ _ _ _ _ (s1.drewN _) (u2.drewN _) hs)))
              go_wp2
              go_roundw
              case rel => exact ⟨k + 1, by omega, by go_num, (by first | exact .inl HOK.out | exact .inl trivial), Below.trans HB2.out (Below.mono (ext_drewN _ _) (by omega)), by rw [HP.out]; exact HO1.out.kp (ext_drewN _ _)⟩
              case measure => simp [intOf]; omega
            · have HP : Hid (pickL (waitY b p) b.batches (k + 1) = pickL (waitY b p) b.batches k ++ [(nthB b.batches k).name]) := pickL_yes (by simp [waitY, HKP.out, hs])
              go_wp2
              go_quiet ((go_at_call 30; exact Calls.quiet_of_same (l1Share_v _ _ _ _ _ _ _ _ (s1.drewN _) (u2.drewN _) hs)))
              generalize hw2 : w1.drewN nq = w2
              have hE2 : Ext w1 w2 := by rw [← hw2]; exact ext_drewN _ _
              clear hw2
              have HO2 := hid (HO1.out.kp hE2)
              have HB3 : Hid (Below (w.heap.size + 1) (w.alloc (.cells #[.slice a1 b.things.length c1, .slice (some ⟨ba, oa, none⟩) b.batches.length c2] 30)) w2) := Below.trans HB2.out (Below.mono hE2 (by omega))
              have hzz2 := hE2.size
              replace p0 := hE2.keep p0
              clear hx0 hx1 p1 p2 r0 r1 r2 s1 s2 u1 u2 hE2 hb1
              have hx0 := box_cell (Below.mono HB3.out (by simp)) (i := 0) rfl
              have hx1 := box_cell (Below.mono HB3.out (by simp)) (i := 1) rfl
              generalize hPL : pickL (waitY b p) b.batches k = L at *
              have HPL := hid hPL
              clear hPL
              go_wp2_with (at_builtin; refine wpList_append_own _ rfl _ _ 22 rfl (w.heap.size + 1) 9 i0 (.string (S [])) 1 16 (uQ Try.underlying22) hi hz0 hz1 hz2 rfl (by decide) _ _ _ rfl (World.ownsRow.alloc HO2.out _) ⟨w2.heap.size, 0, none⟩ 1 1 [.string (S (nthB b.batches k).name)] rfl rfl ?q1 ?q2 ?q3 ?q4 ?q5 ?_)
              case q1 =>
                intro j u hj
                match j, hj with
                | 0, hj => simp at hj; subst hj; simp [Addr.add]
              case q2 => intro u hu; simp at hu; subst hu; rfl
              case q3 => unfold maxLen; omega
              case q4 => omega
              case q5 => simp; omega
              · intro v' w3 hown' hgrow _
                have HN : Hid (OwnL w3 (w.heap.size + 1) v' (L ++ [(nthB b.batches k).name])) := OwnL.step hown'
                have HB4 : Hid (Below (w.heap.size + 1) (w.alloc (.cells #[.slice a1 b.things.length c1, .slice (some ⟨ba, oa, none⟩) b.batches.length c2] 30)) w3) := (HB3.out.alloc (by omega) _).grown hgrow (by simp; omega) (fun g hg => (HO2.out.lt g hg).1)
                clear hown' hgrow
                go_wp2
                go_roundw
                case rel => exact ⟨k + 1, by omega, by go_num, (by first | exact .inl HOK.out | exact .inl trivial), HB4.out, by rw [HP.out]; exact HN.out⟩
                case measure => simp [intOf]; omega
      · have e : k = b.batches.length := by omega
        subst e
        have HE := hid (Ext.tr (hal _) (Below.mono HB.out (by simp)))
        have HM : Hid (waitsL b x = pickL (waitY b p) b.batches b.batches.length) := by
          cases hok : bookOk b
          · have h0 : b.batches.length = 0 := HKK.out.resolve_left (by rw [hok]; simp)
            show _ = _
            rw [HMN.out hok, h0]; rfl
          · exact HML.out hok
        go_wp2_with fail
        go_ret
        refine ⟨ag, cg, ?_, HE.out, ?_⟩
        · rw [HM.out]; rfl
        · rw [HM.out]; exact HAT.out
  · have HMN : Hid (waitsL b x = []) := by show _ = _; simp [waitsL, hpl]
    refine (l1At_no b x _ _ _ _ _ hbW hpl).mono ?_
    rintro e w1 ⟨rfl, hE1⟩
    have HOW1 := hid (HOW.out.kp hE1)
    have HB2 : Hid (Below (w.heap.size + 1) (w.alloc (.cells #[.slice a1 b.things.length c1, .slice a2 b.batches.length c2] 30)) w1) := Below.trans HB1.out (Below.mono hE1 (by simp))
    clear hE1 hx0 hx1 hbW hpl HOW HB1
    go_wp2_with fail
    go_loopw [5, 7] (fun v i wr => i = .int .i64 0 ∧ v = .slice (some ⟨w.heap.size + 1, 0, none⟩) 0 0 ∧ wr = w1) (fun _ _ _ => 0)
    case atStart => exact ⟨rfl, rfl, rfl⟩
    case round =>
      obtain ⟨rfl, rfl, rfl⟩ := hrel
      have hx0 := box_cell (Below.mono HB2.out (by simp)) (i := 0) rfl
      have hx1 := box_cell (Below.mono HB2.out (by simp)) (i := 1) rfl
      have HE := hid (Ext.tr (hal _) (Below.mono HB2.out (by simp)))
      by_cases h0 : 0 < b.batches.length
      all_goals
        go_wp2_with fail
        go_ret
        refine ⟨some ⟨w.heap.size + 1, 0, none⟩, 0, ?_, HE.out, ?_⟩
        · rw [HMN.out]; rfl
        · rw [HMN.out]; exact StrsAt.nil _ _
end Go.Proofs.Ytdafpnpfcmgfcab
