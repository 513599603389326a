/- The walk over the program's ShareFits. -/
import Derived.Test.YtdafpnpfcmgfcaaB5
namespace Go.Proofs.Ytdafpnpfcmgfcaa
open Go.RowKit
attribute [local go_sem] S_toList S_size S_get

/-- The state of going, when some are gone. -/
def GoneAt (w : World) (base g bg : Nat) (vh vn : Value) (b : Book) (gone : List Str) : Prop :=
  ∃ gl : List Bool, gl.length = b.batches.length ∧ (∀ i, i < b.batches.length → gnth gl i = outOf b gone i) ∧ GoingAt w base g bg vh vn (hasBits b) (needsBits b) gl (freeN b (outOf b gone))

theorem GoneAt.ext {w w' : World} {base g bg : Nat} {vh vn : Value} {b : Book} {gone : List Str} (h : GoneAt w base g bg vh vn b gone) (e : Ext w w') : GoneAt w' base g bg vh vn b gone := by
  obtain ⟨gl, h1, h2, h3⟩ := h
  exact ⟨gl, h1, h2, h3.ext e⟩
theorem hasBits_len (b : Book) : (hasBits b).length = b.batches.length := by simp [hasBits]
theorem needsBits_len (b : Book) : (needsBits b).length = b.batches.length := by simp [needsBits]

theorem canGo_v {w : World} {base g bg : Nat} {vh vn : Value} {b : Book} {gone : List Str} {x : Str} {p : Nat} (v : Bool) (hst : GoneAt w base g bg vh vn b gone) (hok : bookOk b = true) (hp : place (namesOf b.batches) x = p) (hlt : p < b.batches.length)
    (hv : (!hasB gone x && canB b p gone) = v) :
    Calls Try.prog 49 #[.pointer (some ⟨g, 0, none⟩), .int .i64 (p : Int)] w fun e w' => e = .returned (.bool v) ∧ ∃ n, w' = w.drewN n := by
  obtain ⟨gl, h1, h2, h3⟩ := hst
  have h8 := ok_things hok
  have hc := canGo_any w base g bg vh vn (hasBits b) (needsBits b) gl (freeN b (outOf b gone)) p h3 (by rw [hasBits_len]; exact hlt) (by rw [needsBits_len]; exact hlt) (by rw [h1]; exact hlt) (freeN_small b _ h8) (by rw [bnth_has hlt]; exact bitsN_small _ _ h8) (by rw [bnth_needs hlt]; exact bitsN_small _ _ h8)
  rw [go_step hok hp hlt gl (h2 p hlt), hv] at hc
  exact hc

theorem leave_v {w w0 : World} {base g bg : Nat} {vh vn : Value} {b : Book} {gone : List Str} {x : Str} {p : Nat} (hst : GoneAt w base g bg vh vn b gone) (hok : bookOk b = true) (hp : place (namesOf b.batches) x = p) (hlt : p < b.batches.length)
    (hx : hasB gone x = false) (hw : Ext w0 w) (hg : w0.heap.size ≤ g) (hbg : w0.heap.size ≤ bg) :
    Calls Try.prog 50 #[.pointer (some ⟨g, 0, none⟩), .int .i64 (p : Int)] w fun e w' => e = .returned (.tuple #[]) ∧ Ext w0 w' ∧ GoneAt w' base g bg vh vn b (gone ++ [x]) := by
  obtain ⟨gl, h1, h2, h3⟩ := hst
  have h8 := ok_things hok
  refine (leave_any w base g bg vh vn (hasBits b) (needsBits b) gl (freeN b (outOf b gone)) p h3 (by rw [hasBits_len]; exact hlt) (by rw [h1]; exact hlt) (freeN_small b _ h8) (by rw [bnth_has hlt]; exact bitsN_small _ _ h8)).mono ?_
  rintro e w' ⟨he, hal, htape⟩
  refine ⟨he, ?_, gl.set p true, by simp [h1], fun i hi => ?_, ?_⟩
  · have hx := (hw.setCell (p := ⟨bg, p, none⟩) hbg (.bool true)).setCell (p := ⟨g, 3, none⟩) hg (.int .u64 ((freeN b (outOf b gone) : Int) + (bnth (hasBits b) p : Int)))
    exact ⟨hal.2.1.trans hx.os, htape.trans hw.tape, hal.2.2.trans hx.output, by rw [hal.1]; exact hx.size, fun k hk => by rw [hal.1]; exact hx.block k hk⟩
  · rw [gnth_set _ _ _ (by rw [h1]; exact hlt), out_step hok hp hlt hi, h2 i hi]; rfl
  · rw [free_go hok hp hlt hx]
    exact h3.left (by rw [h1]; exact hlt) hal

theorem slicesIndex_yes (a : Option Addr) (cap : Nat) (ss : List Str) (x : Str) (p : Nat) (w : World) (hs : StrsAt w a ss) (hp : place ss x = p) (hlt : p < ss.length) :
    Calls Try.prog 48 #[.slice a ss.length cap, .string (S x)] w fun e w' => e = .returned (.int .i64 (p : Nat)) ∧ w' = w := by
  refine (slicesIndex_any a cap ss x w hs).mono ?_
  rintro e w' ⟨(⟨k, rfl, hk⟩ | ⟨rfl, hk⟩), hw⟩
  · rw [place_of hk] at hp; rw [hp]; exact ⟨rfl, hw⟩
  · rw [place_no hk] at hp; omega
theorem slicesIndex_no (a : Option Addr) (cap : Nat) (ss : List Str) (x : Str) (w : World) (hs : StrsAt w a ss) (hlt : ¬ place ss x < ss.length) :
    Calls Try.prog 48 #[.slice a ss.length cap, .string (S x)] w fun e w' => e = .returned (.int .i64 (-1)) ∧ w' = w := by
  refine (slicesIndex_any a cap ss x w hs).mono ?_
  rintro e w' ⟨(⟨k, rfl, hk⟩ | ⟨rfl, hk⟩), hw⟩
  · rw [place_of hk] at hlt; exact absurd hk.1 hlt
  · exact ⟨rfl, hw⟩

set_option maxHeartbeats 1000000 in
theorem implFits_any (b : Book) (order : List Str) (a1 a2 a3 : Option Addr) (c1 c2 c3 : Nat) (w : World) (hb : BookAt w a1 a2 b) (ho : StrsAt w a3 order) :
    Calls Try.prog 17 #[.agg #[.slice a1 b.things.length c1, .slice a2 b.batches.length c2], .slice a3 order.length c3] w fun e w' =>
      e = .returned (.bool (fitsB b order)) ∧ Ext w w' := by
  have hal : ∀ o, Ext w (w.alloc o) := fun o => (Below.refl _ _).alloc (Nat.le_refl _) _
  have hn := hb.2.1
  have hno := ho.1
  cases hok : bookOk b
  · have HF : Hid (fitsB b order = false) := by show _ = false; simp [fitsB, hok]
    go_enter Try.func17, Try.ntmps17
    go_wp2_with fail
    refine (implBookOk_any b _ _ _ _ _ (hb.ext (hal _))).mono ?_
    rintro e w1 ⟨rfl, hext1⟩
    have HE1 := hid (Ext.tr (hal _) hext1)
    clear hext1
    go_wp2_with fail
    go_ret
    exact ⟨ret_bool HF.out.symm, HE1.out⟩
  · by_cases hlen : order.length = b.batches.length
    · have hd : ((order.length : Int) != (b.batches.length : Int)) = false := by simp; omega
      have HL := hid hlen
      have HOK := hid hok
      clear hlen
      go_enter Try.func17, Try.ntmps17
      go_wp2_with fail
      refine (implBookOk_any b _ _ _ _ _ (hb.ext (hal _))).mono ?_
      rintro e w1 ⟨rfl, hext1⟩
      have HE1 := hid hext1
      clear hext1
      have hx0 := box_cell HE1.out (i := 0) rfl
      have hx1 := box_cell HE1.out (i := 1) rfl
      go_wp2_with fail
      refine (batchNames_any _ _ _ _ (hb.2.ext (Ext.tr (hal _) HE1.out))).mono ?_
      rintro e w2 ⟨an, cn, rfl, hext2, hnames⟩
      have HE2 := hid (Ext.tr HE1.out hext2)
      have HN := hid hnames
      clear hx0 hx1 hext2 hnames
      have hx0 := box_cell HE2.out (i := 0) rfl
      have hx1 := box_cell HE2.out (i := 1) rfl
      go_wp2_with fail
      refine (startGoing_any b _ _ _ _ _ (hb.ext (Ext.tr (hal _) HE2.out)) HOK.out (ok_things HOK.out) (ok_five HOK.out)).mono ?_
      rintro e w3 ⟨base, g, bg, vh, vn, rfl, hext3, hg, hbg, hgo⟩
      have HE3 := hid hext3
      have HGO : Hid (GoneAt w3 base g bg vh vn b []) := ⟨List.replicate b.batches.length false, by simp, fun i hi => by simp [gnth, outOf, hasB, List.getD_eq_getElem?_getD, hi], by
        have e : freeN b (fun _ => false) = freeN b (outOf b []) := freeN_congr (fun i _ => by simp [outOf, hasB])
        rw [← e]; exact hgo⟩
      have HEW2 := hid (Ext.tr (hal _) HE2.out)
      clear hx0 hx1 hext3 hgo
      go_wp2_with fail
      go_loopw [28] (fun i wr => ∃ k : Nat, k ≤ order.length ∧ i = .int .i64 k ∧ Ext w2 wr ∧ GoneAt wr base g bg vh vn b (order.take k) ∧ ∀ j, j < k → stepB b order j = true) (fun i _ => order.length - (intOf i).toNat)
      case atStart => exact ⟨0, Nat.zero_le _, rfl, HE3.out, HGO.out, fun j hj => by omega⟩
      case round =>
        obtain ⟨k, hk, rfl, hext, hgone, hx⟩ := hrel
        have ho' := ho.ext (Ext.tr HEW2.out hext)
        have hN' := HN.out.ext hext
        have HX := hid hx
        have HE := hid hext
        have HGN := hid hgone
        clear hx hext hgone
        by_cases hlt : k < order.length
        · obtain ⟨hol, bo, oo, rfl, hco⟩ := ho'.2 k hlt
          by_cases hp : place (namesOf b.batches) (nth order k) < b.batches.length
          · obtain ⟨p, hpe⟩ : ∃ p, place (namesOf b.batches) (nth order k) = p := ⟨_, rfl⟩
            rw [hpe] at hp
            have HP := hid hpe
            clear hpe
            have HST : Hid (stepB b order k = (!hasB (order.take k) (nth order k) && canB b p (order.take k))) := by
              show _ = _
              unfold stepB; rw [HP.out]; simp [hp]
            cases hv : (!hasB (order.take k) (nth order k) && canB b p (order.take k))
            · have HF : Hid (fitsB b order = false) := fitsB_no hlt (by rw [HST.out, hv])
              go_wp2_with fail
              refine (slicesIndex_yes _ _ _ _ p _ hN' HP.out (by rw [namesOf_length]; exact hp)).mono ?_
              rintro e w4 ⟨rfl, rfl⟩
              go_wp2_with fail
              refine (canGo_v false HGN.out HOK.out HP.out hp hv).mono ?_
              rintro e w5 ⟨rfl, n5, rfl⟩
              go_wp2_with fail
              go_ret
              exact ⟨ret_bool HF.out.symm, Ext.tr HEW2.out (Ext.tr HE.out (ext_drewN _ _))⟩
            · have HQ := hid (HST.out.trans hv)
              have hx : hasB (order.take k) (nth order k) = false := by
                cases h : hasB (order.take k) (nth order k)
                · rfl
                · rw [h] at hv; simp at hv
              have HNX := hid hx
              clear hx
              go_wp2_with fail
              refine (slicesIndex_yes _ _ _ _ p _ hN' HP.out (by rw [namesOf_length]; exact hp)).mono ?_
              rintro e w4 ⟨rfl, rfl⟩
              go_wp2_with fail
              refine (canGo_v true HGN.out HOK.out HP.out hp hv).mono ?_
              rintro e w5 ⟨rfl, n5, rfl⟩
              go_wp2_with fail
              refine (leave_v (HGN.out.ext (ext_drewN _ _)) HOK.out HP.out hp HNX.out (Ext.tr HE.out (ext_drewN _ _)) hg hbg).mono ?_
              rintro e w6 ⟨rfl, hext6, hgo6⟩
              have HE6 := hid hext6
              have HG6 := hid hgo6
              clear hext6 hgo6
              go_wp2
              go_roundw
              case rel => exact ⟨k + 1, by omega, by go_num, HE6.out, by rw [take_snoc' hlt]; exact HG6.out, fun j hj => by
                by_cases e : j = k
                · rw [e]; exact HQ.out
                · exact HX.out j (by omega)⟩
              case measure => simp [intOf]; omega
          · have HF : Hid (fitsB b order = false) := fitsB_no hlt (by simp [stepB, hp])
            go_wp2_with fail
            refine (slicesIndex_no _ _ _ _ _ hN' (by rw [namesOf_length]; exact hp)).mono ?_
            rintro e w4 ⟨rfl, rfl⟩
            go_wp2_with fail
            go_ret
            exact ⟨ret_bool HF.out.symm, Ext.tr HEW2.out HE.out⟩
        · have HF : Hid (fitsB b order = true) := fitsB_yes HOK.out HL.out (fun j hj => HX.out j (by omega))
          go_wp2
          go_ret
          exact ⟨ret_bool HF.out.symm, Ext.tr HEW2.out HE.out⟩
    · have hd : ((order.length : Int) != (b.batches.length : Int)) = true := by simp; omega
      have HF : Hid (fitsB b order = false) := by show _ = false; simp [fitsB, hlen]
      go_enter Try.func17, Try.ntmps17
      go_wp2_with fail
      refine (implBookOk_any b _ _ _ _ _ (hb.ext (hal _))).mono ?_
      rintro e w1 ⟨rfl, hext1⟩
      have HE1 := hid hext1
      clear hext1
      have hx0 := box_cell HE1.out (i := 0) rfl
      have hx1 := box_cell HE1.out (i := 1) rfl
      go_wp2_with fail
      go_ret
      exact ⟨ret_bool HF.out.symm, Ext.tr (hal _) HE1.out⟩
end Go.Proofs.Ytdafpnpfcmgfcaa
