/- The walk over the program's startGoing. -/
import Derived.Test.YtdafpnpfcmgfcabB3
namespace Go.Proofs.Ytdafpnpfcmgfcab
open Go.RowKit

def hasTo (b : Book) (i : Nat) : List Nat := (hasBits b).take i
def needsTo (b : Book) (i : Nat) : List Nat := (needsBits b).take i
theorem hasTo_succ {b : Book} {i : Nat} (h : i < b.batches.length) : hasTo b (i + 1) = hasTo b i ++ [bitsN (nthB b.batches i).has b.things] := take_bits (fun x => bitsN x.has b.things) h
theorem needsTo_succ {b : Book} {i : Nat} (h : i < b.batches.length) : needsTo b (i + 1) = needsTo b i ++ [bitsN (nthB b.batches i).needs b.things] := take_bits (fun x => bitsN x.needs b.things) h
theorem hasTo_len {b : Book} {i : Nat} (h : i ≤ b.batches.length) : (hasTo b i).length = i := by unfold hasTo hasBits; rw [List.length_take, List.length_map]; omega
theorem needsTo_len {b : Book} {i : Nat} (h : i ≤ b.batches.length) : (needsTo b i).length = i := by unfold needsTo needsBits; rw [List.length_take, List.length_map]; omega
/-- A call of a function of two arguments that leaves the world alone, as one step of a region that draws. -/
theorem step_call2 {P : Program} {w : World} {ops : Array Oper} {o : Oper} {a : Act} {K : Act → World → Prop} {Q : Exit → Act → World → Prop} {E : Prop} {v : Value} (hgd : o.guard = none) (f : FuncId) (x y : Operand) (ts : Array TypeId)
    (ho : o.op = .call { callee := .value (.func f), args := #[x, y], argTypes := ts }) (hcf : ∀ gs u, (callFunc f gs).run P u = .ok (.enter f gs) u) (hc : Calls P f #[a.eval x, a.eval y] w fun e w' => e = .returned v ∧ w' = w) (hK : K (a.put o.dst v) w) :
    if Region.wanted o (yielded ops a.tmps) = true then Oper.wp P o a w K Q else E := by
  have hw : Region.wanted o (yielded ops a.tmps) = true := by simp [Region.wanted, hgd]
  rw [if_pos hw]
  unfold Oper.wp execOp
  simp only [ho, resolve, invoke, Sem.run_bind, Sem.run_pure, Result.andThen_ok, List.map_toArray, List.map_cons, List.map_nil, Deferred.ofValue, Act.eval]
  rw [hcf]
  refine hc.mono ?_
  rintro e w' ⟨rfl, rfl⟩
  exact hK
theorem bitsOf_call (gs : Array Value) (u : World) : (callFunc 46 gs).run Qry.prog u = .ok (.enter 46 gs) u := by kernel_rfl
theorem own_shape {w : World} {base : Nat} {e : TypeId} {size : Nat} {v : Value} {n : Nat} {xs : List Value} (h : w.ownsRow base e size v n xs) (hn : 0 < n) : ∃ b cap, v = .slice (some ⟨b, 0, none⟩) n cap := by
  rcases h.2 with ⟨_, h0⟩ | ⟨g, cap, cur, hv, _⟩
  · omega
  · exact ⟨g, cap, hv⟩

set_option maxHeartbeats 1000000 in
set_option maxRecDepth 100000 in
theorem startGoing_any (b : Book) (a1 a2 : Option Addr) (c1 c2 : Nat) (w : World) (hb : BookAt w a1 a2 b) (hok : bookOk b = true) (h8 : b.things.length ≤ 8) (h5 : b.batches.length ≤ 5) :
    Calls Qry.prog 24 #[.agg #[.slice a1 b.things.length c1, .slice a2 b.batches.length c2]] w fun e w' =>
      ∃ base g bg vh vn, e = .returned (.pointer (some ⟨g, 0, none⟩)) ∧ Ext w w' ∧ w.heap.size ≤ g ∧ w.heap.size ≤ bg ∧
        GoingAt w' base g bg vh vn (hasBits b) (needsBits b) (List.replicate b.batches.length false) (freeN b (fun _ => false)) := by
  have hal : ∀ o, Ext w (w.alloc o) := fun o => (Below.refl _ _).alloc (Nat.le_refl _) _
  have hmk := run_make_row' (P := Qry.prog) 59 4 (.bool false) 1 (uQ Try.underlying59) Qry.infoBool rfl .i64 .i64 b.batches.length (by omega) (by omega)
  have ht1 : ∀ o, StrsAt ((w.alloc o).drew) a1 b.things := fun o => hb.1.ext (Ext.tr (hal _) (ext_drewN _ 1))
  have ht2 : ∀ o o', StrsAt (((w.alloc o).alloc o').drew) a1 b.things := fun o o' => hb.1.ext (Ext.tr (hal _) (Ext.tr ((Below.refl _ _).alloc (Nat.le_refl _) _) (ext_drewN _ 1)))
  go_enter Qry.func24, Try.ntmps24
  go_upto_region 1 with fail
  go_cut [3] (fun g wx => g = .pointer (some ⟨w.heap.size + 1 + 1, 0, none⟩) ∧ wx.Alike (((w.alloc (.cells #[.slice a1 b.things.length c1, .slice a2 b.batches.length c2] 30)).alloc (.cells (madeCells #[.bool false] b.batches.length) 4)).alloc (.cells #[.slice none 0 0, .slice none 0 0, .slice (some ⟨w.heap.size + 1, 0, none⟩) b.batches.length b.batches.length, .int .u64 (bitsN b.things b.things : Nat)] 61)) ∧ wx.tape = w.tape)
  case first =>
    go_region_held3 (fun w' => w'.cell? ⟨w.heap.size, 0, none⟩ = some (.slice a1 b.things.length c1) ∧ w'.cell? ⟨w.heap.size, 1, none⟩ = some (.slice a2 b.batches.length c2)) (go_keep) (first | (go_at_call 46; refine (bitsOf_any _ _ _ _ _ _ _ (by first | exact ht1 _ | exact ht2 _ _) (by first | exact ht1 _ | exact ht2 _ _) h8).mono ?_; rintro e w2 ⟨rfl, rfl⟩))
    all_goals
      go_wp2_with fail
      go_meet
      exact ⟨rfl, ⟨rfl, rfl, rfl⟩, rfl⟩
  case rest =>
    obtain ⟨rfl, hlike, htape⟩ := hcut
    have HG := hid (start_going hlike)
    have HB : Hid (Below (w.heap.size + 1) (w.alloc (.cells #[.slice a1 b.things.length c1, .slice a2 b.batches.length c2] 30)) wc) := by
      have hx : Below (w.heap.size + 1) (w.alloc (.cells #[.slice a1 b.things.length c1, .slice a2 b.batches.length c2] 30)) (((w.alloc (.cells #[.slice a1 b.things.length c1, .slice a2 b.batches.length c2] 30)).alloc (.cells (madeCells #[.bool false] b.batches.length) 4)).alloc (.cells #[.slice none 0 0, .slice none 0 0, .slice (some ⟨w.heap.size + 1, 0, none⟩) b.batches.length b.batches.length, .int .u64 (bitsN b.things b.things : Nat)] 61)) :=
        ((Below.refl _ _).alloc (by simp) _).alloc (by simp) _
      exact ⟨hlike.2.1.trans hx.os, htape, hlike.2.2.trans hx.output, by rw [hlike.1]; exact hx.size, fun k hk => by rw [hlike.1]; exact hx.block k hk⟩
    have hz0 : w.heap.size + 3 ≤ wc.heap.size := by rw [hlike.1]; simp
    have HZ := hid hz0
    have hx0 := box_cell (Below.mono HB.out (by simp)) (i := 0) rfl
    have hx1 := box_cell (Below.mono HB.out (by simp)) (i := 1) rfl
    clear hlike htape hz0 hmk ht1 ht2
    obtain ⟨i0, hi, hz0, hz1, hz2⟩ := info_bits
    go_wp2_with fail
    go_loopw [21] (fun ii wr => ∃ (i : Nat) (vh vn : Value), i ≤ b.batches.length ∧ ii = .int .i64 i ∧ Below (w.heap.size + 1) (w.alloc (.cells #[.slice a1 b.things.length c1, .slice a2 b.batches.length c2] 30)) wr ∧ w.heap.size + 3 ≤ wr.heap.size ∧
      GoingAt wr (w.heap.size + 3) (w.heap.size + 2) (w.heap.size + 1) vh vn (hasTo b i) (needsTo b i) (List.replicate b.batches.length false) (freeN b (fun j => decide (i ≤ j))) ∧ Sep vh vn) (fun ii _ => b.batches.length - (intOf ii).toNat)
    case atStart =>
      refine ⟨0, .slice none 0 0, .slice none 0 0, Nat.zero_le _, rfl, HB.out, HZ.out, ?_, fun k hk => by simp [Value.ownBlock] at hk⟩
      have e : freeN b (fun j => decide (0 ≤ j)) = bitsN b.things b.things := by
        rw [← freeN_all]; exact freeN_congr (fun j _ => by simp)
      rw [e]
      exact HG.out
    case round =>
      clear hx0 hx1
      obtain ⟨i, vh, vn, hik, rfl, hbel, hsz, hgo, hsep⟩ := hrel
      have HB1 := hid hbel
      have hx0 := box_cell (Below.mono hbel (by simp)) (i := 0) rfl
      have hx1 := box_cell (Below.mono hbel (by simp)) (i := 1) rfl
      have hEw : Ext w wr := Ext.tr (hal _) (Below.mono hbel (by simp))
      have hb' := hb.ext hEw
      have HEW := hid hEw
      clear hbel hEw
      by_cases hlt : i < b.batches.length
      · obtain ⟨ba, oa, rfl, hl, d1, g1, d2, g2, p0, p1, p2, s1, s2⟩ := hb.2.2 i hlt
        replace p0 := HEW.out.keep p0
        replace p1 := HEW.out.keep p1
        replace p2 := HEW.out.keep p2
        have HGO := hid hgo
        have HSEP := hid hsep
        clear hgo hsep
        have c0 : wr.cell? ⟨w.heap.size + 1 + 1, 0, none⟩ = some vh := HGO.out.cells.cell (i := 0) (by omega)
        have f0 : wr.frozen? ⟨w.heap.size + 1 + 1, 0, none⟩ = false := HGO.out.cells.frozen 0
        have ea := fun o => ext_alloc wr o
        have c0' : ∀ o, (wr.alloc o).cell? ⟨w.heap.size + 1 + 1, 0, none⟩ = some vh := fun o => (ea o).keep c0
        have hx0' : ∀ o, (wr.alloc o).cell? ⟨w.heap.size, 0, none⟩ = some (.slice a1 b.things.length c1) := fun o => (ea o).keep hx0
        clear ea
        have hbh := bitsN_small (nthB b.batches i).has b.things h8
        have hlenh : (hasTo b i).length ≤ 5 := by rw [hasTo_len hik]; omega
        have hlenn : (needsTo b i).length ≤ 5 := by rw [needsTo_len hik]; omega
        go_wp2_with fail
        refine (bitsOf_any _ _ _ _ _ _ _ (s1.ext (Ext.tr HEW.out (ext_alloc _ _))) (hb.1.ext (Ext.tr HEW.out (ext_alloc _ _))) h8).mono ?_
        rintro e w1 ⟨rfl, rfl⟩
        generalize hbv : bitsN (nthB b.batches i).has b.things = hv at *
        have HBV := hid hbv
        clear hbv
        go_wp2_with (at_builtin; refine wpList_append_own_at _ rfl _ _ 58 rfl (w.heap.size + 3) 57 i0 (.int .u64 0) 1 8 (uQ Try.underlying58) hi hz0 hz1 hz2 rfl (by decide) _ _ _ rfl ((HGO.out.hrow.alloc _).alloc _) ⟨wr.heap.size + 1, 0, none⟩ 1 1 [.int .u64 (hv : Int)] rfl rfl ?q1 ?q2 ?q3 ?q4 ?q5 ?_)
        case q1 =>
          intro j u hj
          match j, hj with
          | 0, hj => simp at hj; subst hj; simp [Addr.add]
        case q2 => intro u hu; simp at hu; subst hu; rfl
        case q3 => unfold maxLen; omega
        case q4 => omega
        case q5 => simp; omega
        · intro v' w3 hown' hgrow _ hloc
          have hW2 : Ext wr ((wr.alloc (.cells #[.string (S (nthB b.batches i).name), .slice d1 (nthB b.batches i).has.length g1, .slice d2 (nthB b.batches i).needs.length g2] 43)).alloc (.cells #[.int .u64 (hv : Int)] 57)) := ((Below.refl _ _).alloc (Nat.le_refl _) _).alloc (by simp) _
          have HGO2 := hid (HGO.out.ext hW2)
          obtain ⟨hgo4, hsep4⟩ := HGO2.out.pushHas HSEP.out hown' hgrow (by simpa using hloc)
          obtain ⟨b', cap', rfl⟩ := own_shape hown' (by omega)
          have hne : ∀ k, (k < w.heap.size + 3 ∨ k = wr.heap.size) → some k ≠ vh.ownBlock := fun k hor e => by
            have h1 := HGO.out.hrow.lt k e.symm
            omega
          have c3 : w3.cell? ⟨w.heap.size + 1 + 1, 0, none⟩ = some vh := hgrow.cell (hW2.keep c0) (hne (w.heap.size + 1 + 1) (Or.inl (by omega)))
          have f3 : w3.frozen? ⟨w.heap.size + 1 + 1, 0, none⟩ = false := (rowIs_grown HGO2.out.cells HGO2.out.hrow HGO.out.hg hgrow).frozen 0
          have x2 : w3.cell? ⟨wr.heap.size, 2, none⟩ = some (.slice d2 (nthB b.batches i).needs.length g2) := hgrow.cell ((ext_alloc _ _).keep (box_cell (Ext.rfl' (wr.alloc (.cells #[.string (S (nthB b.batches i).name), .slice d1 (nthB b.batches i).has.length g1, .slice d2 (nthB b.batches i).needs.length g2] 43))) (i := 2) rfl)) (hne wr.heap.size (Or.inr rfl))
          have x0 : w3.cell? ⟨w.heap.size, 0, none⟩ = some (.slice a1 b.things.length c1) := hgrow.cell (hW2.keep hx0) (hne w.heap.size (Or.inl (by omega)))
          have hsz3 : w.heap.size + 3 ≤ w3.heap.size := by have := hgrow.size; simp at this; omega
          have hwr3 : wr.heap.size + 2 ≤ w3.heap.size := by have := hgrow.size; simp at this; omega
          have HB3 : Hid (Below (w.heap.size + 1) (w.alloc (.cells #[.slice a1 b.things.length c1, .slice (some ⟨ba, oa, none⟩) b.batches.length c2] 30)) w3) :=
            ((HB1.out.alloc (by omega) _).alloc (by simp; omega) _).grown hgrow (by simp; omega) (fun k hk => by have := (HGO.out.hrow.lt k hk).1; omega)
          have HGO4 := hid hgo4
          have HSEP4 := hid hsep4
          clear hgo4 hsep4 hown' hgrow hloc hW2 HGO2 hne p0 p1 p2 hx0 hx1 hx0' c0 c0' f0
          have HB4 : Hid (Below (w.heap.size + 1) (w.alloc (.cells #[.slice a1 b.things.length c1, .slice (some ⟨ba, oa, none⟩) b.batches.length c2] 30)) (w3.setCell ⟨w.heap.size + 1 + 1, 0, none⟩ (.slice (some ⟨b', 0, none⟩) ((hasTo b i).length + 1) cap'))) := HB3.out.setCell (by simp) _
          have x24 : (w3.setCell ⟨w.heap.size + 1 + 1, 0, none⟩ (.slice (some ⟨b', 0, none⟩) ((hasTo b i).length + 1) cap')).cell? ⟨wr.heap.size, 2, none⟩ = some (.slice d2 (nthB b.batches i).needs.length g2) := by
            rw [World.cell?_setCell_far _ _ _ _ (by simp; omega)]; exact x2
          have x04 : (w3.setCell ⟨w.heap.size + 1 + 1, 0, none⟩ (.slice (some ⟨b', 0, none⟩) ((hasTo b i).length + 1) cap')).cell? ⟨w.heap.size, 0, none⟩ = some (.slice a1 b.things.length c1) := by
            rw [World.cell?_setCell_far _ _ _ _ (by simp; omega)]; exact x0
          have hsz4 : wr.heap.size + 2 ≤ (w3.setCell ⟨w.heap.size + 1 + 1, 0, none⟩ (.slice (some ⟨b', 0, none⟩) ((hasTo b i).length + 1) cap')).heap.size := by simpa using hwr3
          go_upto_region 7 with fail
          generalize (w3.setCell ⟨w.heap.size + 1 + 1, 0, none⟩ (.slice (some ⟨b', 0, none⟩) ((hasTo b i).length + 1) cap')) = w4 at HGO4 HB4 x24 x04 hsz4 ⊢
          have n1 : w4.cell? ⟨w.heap.size + 1 + 1, 1, none⟩ = some vn := HGO4.out.cells.cell (i := 1) (by omega)
          have fr1 : w4.frozen? ⟨w.heap.size + 1 + 1, 1, none⟩ = false := HGO4.out.cells.frozen 1
          have hEw4 : Ext w w4 := Ext.tr (hal _) (Below.mono HB4.out (by simp))
          have hs2' : StrsAt w4.drew d2 (nthB b.batches i).needs := s2.ext (Ext.tr hEw4 (ext_drewN _ 1))
          have hth' : StrsAt w4.drew a1 b.things := hb.1.ext (Ext.tr hEw4 (ext_drewN _ 1))
          have hbn := bitsN_small (nthB b.batches i).needs b.things h8
          clear c3 f3 x2 x0 HB3 hEw4
          have HNEW := cell_one_new w4 (.int .u64 (bitsN (nthB b.batches i).needs b.things : Nat)) 57
          have HONE : ∀ u ∈ [Value.int .u64 (bitsN (nthB b.batches i).needs b.things : Nat)], u.oneCell' = true := fun u hu => by simp at hu; subst hu; rfl
          have ext5 : Ext w4 ((w4.alloc (.cells #[.int .u64 (bitsN (nthB b.batches i).needs b.things : Nat)] 57)).drew) := Ext.tr (ext_alloc _ _) (ext_drewN _ 1)
          have n1' : ∀ o, (w4.alloc o).cell? ⟨w.heap.size + 1 + 1, 1, none⟩ = some vn := fun o => (ext_alloc _ _).keep n1
          have HGO5 := hid (HGO4.out.ext ext5)
          have hne6 : ∀ k, (k < w.heap.size + 3 ∨ k = wr.heap.size) → some k ≠ vn.ownBlock := fun k hor e => by
            rcases hor with h | h
            · exact ownBlock_ge HGO.out.nrow h e.symm
            · have := (HGO.out.nrow.lt k e.symm).2; omega
          go_cut [] (fun wx => ∃ vn', Below (w.heap.size + 1) (w.alloc (.cells #[.slice a1 b.things.length c1, .slice (some ⟨ba, oa, none⟩) b.batches.length c2] 30)) wx ∧ w.heap.size + 3 ≤ wx.heap.size ∧
            GoingAt wx (w.heap.size + 3) (w.heap.size + 2) (w.heap.size + 1) (.slice (some ⟨b', 0, none⟩) ((hasTo b i).length + 1) cap') vn' (hasTo b i ++ [hv]) (needsTo b i ++ [bitsN (nthB b.batches i).needs b.things]) (List.replicate b.batches.length false) (freeN b (fun j => decide (i ≤ j))) ∧ Sep (.slice (some ⟨b', 0, none⟩) ((hasTo b i).length + 1) cap') vn')
          case first =>
            go_region_law (first | (refine step_append_own_at rfl (.tmp 44) (.tmp 50) 58 rfl (w.heap.size + 3) 57 i0 (.int .u64 0) 1 8 (uQ Try.underlying58) hi hz0 hz1 hz2 rfl (by decide) vn _ _ (by simp [Act.eval]) (HGO4.out.nrow.alloc (.cells #[.int .u64 (bitsN (nthB b.batches i).needs b.things : Nat)] 57)).drew ⟨w4.heap.size, 0, none⟩ 1 1 [.int .u64 (bitsN (nthB b.batches i).needs b.things : Nat)] (by simp [Act.eval]) rfl HNEW HONE (by unfold maxLen; omega) (by omega) (by simp; omega) ?_; intro v6 w6 hown6 hgrow6 hloc6; obtain ⟨b6, cap6, rfl⟩ := own_shape hown6 (by omega); have mf : w6.frozen? ⟨w.heap.size + 1 + 1, 1, none⟩ = false := (rowIs_grown HGO5.out.cells HGO5.out.nrow HGO.out.hg hgrow6).frozen 1; have m1 := hgrow6.cell (a := ⟨w.heap.size + 1 + 1, 1, none⟩) (ext5.keep n1) (hne6 (w.heap.size + 1 + 1) (Or.inl (by omega))); have m2 := hgrow6.cell (a := ⟨wr.heap.size, 2, none⟩) (ext5.keep x24) (hne6 wr.heap.size (Or.inr rfl)); have m3 := hgrow6.cell (a := ⟨w.heap.size, 0, none⟩) (ext5.keep x04) (hne6 w.heap.size (Or.inl (by omega)))) | (refine step_call2 rfl 46 (.tmp 46) (.tmp 48) _ rfl bitsOf_call (by exact (bitsOf_any _ _ _ _ _ _ _ hs2' hth' h8)) ?_))
            all_goals
              have hz6 := hgrow6.size
              simp at hz6
              obtain ⟨hgo6, hsep6⟩ := HGO5.out.pushNeeds HSEP4.out hown6 hgrow6 (by simpa using hloc6)
              have hb6 := ((HB4.out.alloc (by omega) (.cells #[.int .u64 (bitsN (nthB b.batches i).needs b.things : Nat)] 57)).drew.grown hgrow6 (by simp; omega) (fun k hk => by have := (HGO.out.nrow.lt k hk).1; omega)).setCell (p := ⟨w.heap.size + 1 + 1, 1, none⟩) (by simp) (.slice (some ⟨b6, 0, none⟩) ((needsTo b i).length + 1) cap6)
              go_wp2_with fail
              go_meet
              exact ⟨_, hb6, by simp; omega, hgo6, hsep6⟩
          case rest =>
            obtain ⟨vn', hb7, hz7, hgo7, hsep7⟩ := hcut
            have HGO7 := hid hgo7
            have HB7 := hid hb7
            have HSEP7 := hid hsep7
            have hF := free_step hok hlt
            rw [HBV.out] at hF
            have hsm := freeN_small b (fun j => decide (i ≤ j)) h8
            have c3 : wc.cell? ⟨w.heap.size + 1 + 1, 3, none⟩ = some (.int .u64 (freeN b (fun j => decide (i ≤ j)) : Nat)) := HGO7.out.cells.cell (i := 3) (by omega)
            have f3 : wc.frozen? ⟨w.heap.size + 1 + 1, 3, none⟩ = false := HGO7.out.cells.frozen 3
            generalize freeN b (fun j => decide (i ≤ j)) = F at hF hsm c3
            obtain ⟨F', hF'⟩ : ∃ F', freeN b (fun j => decide (i + 1 ≤ j)) = F' := ⟨_, rfl⟩
            rw [hF'] at hF
            have hwr : IntKind.u64.wrap ((F : Int) - (hv : Int)) = (F' : Int) := by rw [wrapU (by omega) (by omega)]; omega
            have HF' := hid hF'
            clear hF hF' hgo7 hb7 hsep7 n1 fr1 n1' HNEW ext5 hne6 hs2' hth' x24 x04
            go_wp2
            go_roundw
            case rel =>
              refine ⟨i + 1, _, vn', by omega, by go_num, HB7.out.setCell (by simp) _, by simpa using hz7, ?_, HSEP7.out⟩
              rw [hasTo_succ hlt, needsTo_succ hlt, HBV.out, HF'.out]
              exact HGO7.out.setFree F'
            case measure => simp [intOf]; omega
      · have e : i = b.batches.length := by omega
        have HGO := hid hgo
        clear hgo hb'
        go_wp2
        go_ret
        refine ⟨w.heap.size + 3, w.heap.size + 2, w.heap.size + 1, vh, vn, rfl, HEW.out, by omega, by omega, ?_⟩
        have h1 : hasTo b i = hasBits b := List.take_of_length_le (by unfold hasBits; rw [List.length_map]; omega)
        have h2 : needsTo b i = needsBits b := List.take_of_length_le (by unfold needsBits; rw [List.length_map]; omega)
        have h3 : freeN b (fun j => decide (i ≤ j)) = freeN b (fun _ => false) := freeN_congr (fun j hj => by simp; omega)
        rw [← h1, ← h2, ← h3]
        exact HGO.out
end Go.Proofs.Ytdafpnpfcmgfcab
