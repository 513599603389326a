/- The walk over l5Wild: the loops. -/
import Derived.Test.YtdafpnpfcmgfcaaD6
namespace Go.Proofs.Ytdafpnpfcmgfcaa
open Go.RowKit
attribute [local go_sem] S_toList S_size S_get

/-- The batch that is being drawn, besides. -/
structure WX (w wc : World) (R q : Nat) (T : List Str) (a1 : Option Addr) (c1 : Nat) (vt vb : Value) (TL : List Str) (rs : List Row) (bs : List Batch) (X : Nat) (name : Str) (vh vn : Value) (H N : List Str) : Prop where
  ws : WS w wc R q T a1 c1 vt vb TL rs bs
  rx : Rec wc X 41 [.string (S name), vh, vn]
  oh : OwnL wc (w.heap.size + 3) vh H
  on_ : OwnL wc (w.heap.size + 3) vn N
  n1 : NE vt vh
  n2 : NE vt vn
  n3 : NE vh vn
  n4 : ∀ r ∈ rs, NE vh r.has ∧ NE vh r.needs
  nb : vb.ownBlock ≠ some X
  hX : w.heap.size + 3 ≤ X
  sh : ShortL H

theorem WX.read {w wc wd : World} {R q q' : Nat} {T : List Str} {a1 : Option Addr} {c1 : Nat} {vt vb vh vn : Value} {TL H N : List Str} {rs : List Row} {bs : List Batch} {X : Nat} {name : Str} (h : WX w wc R q T a1 c1 vt vb TL rs bs X name vh vn H N) (g : wc.grownBy wd (some R)) (hr : Rd wd R q') : WX w wd R q' T a1 c1 vt vb TL rs bs X name vh vn H N := by
  have hR := h.ws.hR
  have hX := h.hX
  have hf : ∀ k, some R = some k → k < w.heap.size + 3 := fun k e => by cases e; omega
  exact ⟨h.ws.read g hr, h.rx.kept g (by simp; omega), h.oh.far g hf, h.on_.far g hf, h.n1, h.n2, h.n3, h.n4, h.nb, h.hX, h.sh⟩
theorem WX.ext {w wc wd : World} {R q : Nat} {T : List Str} {a1 : Option Addr} {c1 : Nat} {vt vb vh vn : Value} {TL H N : List Str} {rs : List Row} {bs : List Batch} {X : Nat} {name : Str} (h : WX w wc R q T a1 c1 vt vb TL rs bs X name vh vn H N) (e : Ext wc wd) : WX w wd R q T a1 c1 vt vb TL rs bs X name vh vn H N :=
  ⟨h.ws.ext e, h.rx.ext e, h.oh.ext e, h.on_.ext e, h.n1, h.n2, h.n3, h.n4, h.nb, h.hX, h.sh⟩
theorem WX.mono {w wc : World} {R q q' : Nat} {T : List Str} {a1 : Option Addr} {c1 : Nat} {vt vb vh vn : Value} {TL H N : List Str} {rs : List Row} {bs : List Batch} {X : Nat} {name : Str} (h : WX w wc R q T a1 c1 vt vb TL rs bs X name vh vn H N) (hq : q ≤ q') : WX w wc R q' T a1 c1 vt vb TL rs bs X name vh vn H N :=
  ⟨h.ws.mono hq, h.rx, h.oh, h.on_, h.n1, h.n2, h.n3, h.n4, h.nb, h.hX, h.sh⟩
theorem WX.taken {w wc wd : World} {R q : Nat} {T : List Str} {a1 : Option Addr} {c1 : Nat} {vt vt' vb vh vn : Value} {TL TL' H N : List Str} {rs : List Row} {bs : List Batch} {X : Nat} {name : Str} (h : WX w wc R q T a1 c1 vt vb TL rs bs X name vh vn H N) (g : wc.grownBy wd vt.ownBlock) (ho : OwnL wd (w.heap.size + 3) vt' TL') (hs : ShortL TL') (hu : vt'.ownBlock = vt.ownBlock ∨ vt'.ownBlock = some wc.heap.size) : WX w wd R q T a1 c1 vt' vb TL' rs bs X name vh vn H N :=
  ⟨h.ws.taken g ho hs hu, h.rx.kept g (h.rx.not_row rfl h.ws.ot), own_ne h.oh g h.n1, own_ne h.on_ g h.n2, h.n1.next h.oh hu, h.n2.next h.on_ hu, h.n3, h.n4, h.nb, h.hX, h.sh⟩
/-- What it has grows, and is laid into its box. -/
theorem WX.has {w wc wd : World} {R q : Nat} {T : List Str} {a1 : Option Addr} {c1 : Nat} {vt vb vh vh' vn : Value} {TL H H' N : List Str} {rs : List Row} {bs : List Batch} {X : Nat} {name : Str} (h : WX w wc R q T a1 c1 vt vb TL rs bs X name vh vn H N) (g : wc.grownBy wd vh.ownBlock) (ho : OwnL wd (w.heap.size + 3) vh' H') (hs : ShortL H') (hu : vh'.ownBlock = vh.ownBlock ∨ vh'.ownBlock = some wc.heap.size) : WX w (wd.setCell ⟨X, 1, none⟩ vh') R q T a1 c1 vt vb TL rs bs X name vh' vn H' N := by
  have hX := h.hX
  have hR := h.ws.hR
  have ws1 := h.ws.strs h.oh g h.n1.symm h.n4
  have rx1 := h.rx.kept g (h.rx.not_row rfl h.oh)
  have on1 := own_ne h.on_ g h.n3
  refine ⟨ws1.store rx1 h.hX h.nb, rx1.set 1 vh', ho.stored rx1 rfl _ _, OwnL.stored on1 rx1 rfl _ _, ?_, h.n2, h.n3.next h.on_ hu, fun r hr => ?_, h.nb, h.hX, hs⟩
  · exact (h.n1.symm.next h.ws.ot hu).symm
  · obtain ⟨_, k1, _, k2⟩ := h.ws.ow.mem hr
    exact ⟨(h.n4 r hr).1.next k1 hu, (h.n4 r hr).2.next k2 hu⟩

/-- The batch is laid into the book. -/
theorem WX.pushed {w wc wd : World} {R q : Nat} {T : List Str} {a1 : Option Addr} {c1 : Nat} {vt vb vb' vh vn : Value} {TL H N : List Str} {rs : List Row} {bs : List Batch} {X : Nat} {name : Str} (h : WX w wc R q T a1 c1 vt vb TL rs bs X name vh vn H N) (hn : name.length ≤ 140737488355328) (hH : H.length ≤ 8) (hN : N.length ≤ 8) (hNs : ShortL N) (g : wc.grownBy wd vb.ownBlock)
    (ho : wd.ownsRow (w.heap.size + 3) 41 3 vb' (rs ++ [(⟨name, vh, vn⟩ : Row)]).length (cellsOf (rs ++ [(⟨name, vh, vn⟩ : Row)]))) : WS w (wd.setCell ⟨w.heap.size, 1, none⟩ vb') R q T a1 c1 vt vb' TL (rs ++ [⟨name, vh, vn⟩]) (bs ++ [⟨name, H, N⟩]) := by
  have hR := h.ws.hR
  have hob : ∀ k, vb.ownBlock = some k → w.heap.size + 3 ≤ k := fun k e => (h.ws.ob.lt k e).1
  have hk : ∀ (k : Nat) c, vb.ownBlock = some k → wc.heap[k]? = some (.cells c 9 (0, 0)) → False := fun k c e hk => row_ne h.ws.ob k c e hk
  have rb1 := h.ws.rb.kept g (h.ws.rb.not_row rfl h.ws.ob)
  have g2 := gb_store wd w.heap.size 1 vb'
  have hk2 : ∀ (k : Nat) c, some w.heap.size = some k → wd.heap[k]? = some (.cells c 9 (0, 0)) → False := fun k c e hk => by
    cases e
    rw [show wd.heap[w.heap.size]? = _ from rb1] at hk
    simp at hk
  have hnb : vb'.ownBlock = none ∨ vb'.ownBlock ≠ some w.heap.size := Or.inr (fun e => by have := (ho.lt _ e).1; omega)
  refine ⟨on_grown (on_grown h.ws.on g (fun k e => by have := hob k e; omega)) g2 (fun k e => by cases e; omega), (h.ws.rd.gb g (fun k e => by have := hob k e; omega)).gb g2 (fun k e => by cases e; omega), rb1.set 1 vb', (h.ws.rr.kept g (h.ws.rr.not_row rfl h.ws.ob)).kept g2 (by simp), (h.ws.nm.gb g (fun _ b o e er => by cases e; have := hob _ er.symm; omega)).gb g2 (fun _ b o e => by cases e; simp; omega), (h.ws.ot.keep g hk).keep g2 hk2, h.ws.st, World.ownsRow.kept ho g2 hnb, ?_, fun r hr => ?_, fun x hx => ?_, h.ws.hR, Nat.le_trans h.ws.hz (Nat.le_trans g.size g2.size)⟩
  · exact RowsOwn.snoc ((h.ws.ow.keep g hk).keep g2 hk2) ⟨rfl, hn, (h.oh.keep g hk).keep g2 hk2, ⟨by show H.length ≤ _; omega, h.sh⟩, (h.on_.keep g hk).keep g2 hk2, ⟨by show N.length ≤ _; omega, hNs⟩⟩
  · rw [List.mem_append, List.mem_singleton] at hr
    rcases hr with hr | rfl
    · exact h.ws.nt r hr
    · exact ⟨h.n1, h.n2⟩
  · rw [List.mem_append, List.mem_singleton] at hx
    rcases hx with hx | rfl
    · exact h.ws.sm x hx
    · exact ⟨hH, hN⟩
/-- A new batch: its name, nothing, what it needs. -/
theorem WX.new {w w3 w4 wx : World} {R q q3 : Nat} {T : List Str} {a1 : Option Addr} {c1 : Nat} {vt vb vn : Value} {TL N : List Str} {rs : List Row} {bs : List Batch} {X : Nat} {name : Str} (h3 : WS w w3 R q3 T a1 c1 vt vb TL rs bs) (h : WS w wx R q T a1 c1 vt vb TL rs bs) (ho : OwnL w4 w3.heap.size vn N) (hox : OwnL wx w3.heap.size vn N) (rx : Rec wx X 41 [.string (S name), .slice none 0 0, vn]) (hX : w3.heap.size ≤ X) : WX w wx R q T a1 c1 vt vb TL rs bs X name (.slice none 0 0) vn [] N :=
  ⟨h, rx, World.ownsRow_nil _ _ _ _, hox.low h3.hz, NE.nil _, NE.older h3.ot ho (Nat.le_refl _), (NE.nil _).symm, fun _ _ => ⟨(NE.nil _).symm, (NE.nil _).symm⟩, fun e => by have := (h3.ob.lt _ e).2; omega, Nat.le_trans h3.hz hX, ShortL.nil⟩

set_option maxRecDepth 100000 in
set_option maxHeartbeats 2000000 in
theorem l5Wild_any (R q : Nat) (T : List Str) (a1 : Option Addr) (c1 : Nat) (w : World) (h : Rd w R q) (hq : q ≤ 800000) (hT : StrsAt w a1 T) (hT8 : T.length ≤ 8) :
    Calls Try.prog 74 #[.pointer (some ⟨R, 0, none⟩), .agg #[.slice a1 T.length c1, .slice none 0 0]] w fun e w' =>
      ∃ (bs : List Batch) (x2 : Option Addr) (y2 : Nat), e = .returned (.agg #[.slice a1 T.length c1, .slice x2 bs.length y2]) ∧ w.grownBy w' (some R) ∧ Rd w' R (q + 200) ∧ BatchesAt w' x2 bs ∧ bs.length ≤ 5 ∧ SmallBs bs := by
  have hlt0 := h.lt
  have e2 : ∀ o1 o2, Ext w ((w.alloc o1).alloc o2) := fun o1 o2 => ((Below.refl _ _).alloc (Nat.le_refl _) _).alloc (by simp) _
  go_enter Try.func74, Try.ntmps74
  go_wp2_with fail
  refine (l5Names_any _).mono ?_
  rintro e w1 ⟨rfl, hE1, hf1⟩
  have hz1 := hE1.size
  have hz1' := hf1.lt (by simp [five]) _ _ rfl
  simp at hz1 hf1 hz1'
  have HB : Hid (Rec w1 w.heap.size 26 [.slice a1 T.length c1, .slice none 0 0]) := ((Rec.new w _ _).ext (ext_alloc _ _)).ext hE1
  have HRR : Hid (Rec w1 (w.heap.size + 1) 26 [.slice none 0 0, .slice none 0 0]) := by
    have h := (Rec.new (w.alloc (.cells #[.slice a1 T.length c1, .slice none 0 0] 26)) 26 [.slice none 0 0, .slice none 0 0]).ext hE1
    have e : (w.alloc (.cells #[.slice a1 T.length c1, .slice none 0 0] 26)).heap.size = w.heap.size + 1 := by simp
    rw [e] at h; exact h
  have HWS : Hid (WS w (w1.alloc (.cells #[] 9)) R q T a1 c1 (.slice (some ⟨w1.heap.size, 0, none⟩) 0 0) (.slice none 0 0) [] [] []) :=
    ⟨gb_ext (Ext.tr (Ext.tr (e2 _ _) hE1) (ext_alloc _ _)) _, ((h.ext (e2 _ _)).ext hE1).ext (ext_alloc _ _), HB.out.ext (ext_alloc _ _), HRR.out.ext (ext_alloc _ _), hf1.ext (ext_alloc _ _), OwnL.made w1 _ (by omega), ShortL.nil, World.ownsRow_nil _ _ _ _, ⟨rfl, fun i r x h => by simp at h⟩, fun r hr => by simp at hr, fun x hx => by simp at hx, hlt0, by simp; omega⟩
  clear HB HRR hE1 hf1
  go_wp2_with fail
  generalize hwv : Value.slice (some ⟨w1.heap.size, 0, none⟩) 0 0 = vt0 at HWS ⊢
  clear hwv
  generalize w1.alloc (.cells #[] 9) = w2 at HWS ⊢
  go_loopw [6, 7] (fun v i wr => ∃ (k : Nat) (vb : Value) (TL : List Str) (rs : List Row) (bs : List Batch), k ≤ 5 ∧ i = .int .i64 k ∧ WS w wr R (q + 30 * k) T a1 c1 v vb TL rs bs ∧ bs.length ≤ k ∧ TL.length ≤ 8 * k) (fun _ i _ => 5 - (intOf i).toNat)
  case atStart => exact ⟨0, _, [], [], [], by omega, rfl, HWS.out, by simp, by simp⟩
  case round =>
    clear HWS
    obtain ⟨k, vb, TL, rs, bs, hk, rfl, hws, hbl, htl⟩ := hrel
    have HW := hid hws
    clear hws
    obtain ⟨av, cv, rfl⟩ := own_sl HW.out.ot
    by_cases hlt : k < 5
    · go_wp2_with fail
      refine (pick_any R (q + 30 * k) 4 wr HW.out.rd (by omega) (by omega) (by omega)).mono ?_
      rintro e w3 ⟨j, rfl, hj, hg3, hr3⟩
      have HW3 := hid (HW.out.read hg3 hr3)
      clear hg3 hr3 HW
      by_cases hj0 : j = 0
      · subst hj0
        go_wp2
        go_roundw
        case rel => exact ⟨k + 1, vb, TL, rs, bs, by omega, by go_num, HW3.out.mono (by omega), by omega, by omega⟩
        case measure => simp [intOf]; omega
      · have hj1 : ((j : Int) == 0) = false := by simp; omega
        obtain ⟨hln, bb, oo, ee, hc⟩ := HW3.out.nm.2 k (by simpa [five] using hlt)
        cases ee
        rw [Nat.zero_add] at hc
        have hq0 := HW3.out.rb.cell (i := 0) rfl
        have hT3 := hT.on h HW3.out.on
        go_upto_region 7 with fail
        go_cut [8] (fun p wx => ∃ (X : Nat) (vn : Value) (N : List Str), p = .pointer (some ⟨X, 0, none⟩) ∧ WX w wx R (q + 30 * k + 9) T a1 c1 (.slice av TL.length cv) vb TL rs bs X (nth five k) (.slice none 0 0) vn [] N ∧ N.length ≤ 8 ∧ ShortS N)
        case first =>
          refine wp_region_T (fun w' => w'.cell? ⟨w.heap.size, 0, none⟩ = some (.slice a1 T.length c1) ∧ w'.cell? ⟨w.heap.size + 1 + 1, k, none⟩ = some (.string (S (nth five k)))) 10 (by kernel_rfl) ⟨hq0, hc⟩ (fun hS => ?_)
          refine wpT_take 0 (v := ?_) rfl rfl (by kernel_rfl) (by kernel_rfl) (by kernel_rfl) (by kernel_rfl) (fun _ _ _ h => h) hS rfl (by intro w0 hw0; (try dsimp only at hw0); go_simp; try rfl) ?_
          try simp only [List.set]
          refine wpT_take 1 (v := ?_) rfl rfl (by kernel_rfl) (by kernel_rfl) (by kernel_rfl) (by kernel_rfl) (fun _ _ _ h => h) hS rfl (by intro w0 hw0; (try dsimp only at hw0); go_simp; try rfl) ?_
          try simp only [List.set]
          refine wpT_take 2 (v := ?_) rfl rfl (by kernel_rfl) (by kernel_rfl) (by kernel_rfl) (by kernel_rfl) (fun _ _ _ h => h) hS rfl (by intro w0 hw0; (try dsimp only at hw0); go_simp; try rfl) ?_
          try simp only [List.set]
          refine wpT_take 3 (v := ?_) rfl rfl (by kernel_rfl) (by kernel_rfl) (by kernel_rfl) (by kernel_rfl) (fun _ _ _ h => h) hS rfl (by intro w0 hw0; (try dsimp only at hw0); go_simp; try rfl) ?_
          try simp only [List.set]
          refine wpT_take 4 (v := ?_) rfl rfl (by kernel_rfl) (by kernel_rfl) (by kernel_rfl) (by kernel_rfl) (fun _ _ _ h => h) hS rfl (by intro w0 hw0; (try dsimp only at hw0); go_simp; try rfl) ?_
          try simp only [List.set]
          refine wpT_take 5 (v := ?_) rfl rfl (by kernel_rfl) (by kernel_rfl) (by kernel_rfl) (by kernel_rfl) (fun _ _ _ h => h) hS rfl (by intro w0 hw0; (try dsimp only at hw0); go_simp; try rfl) ?_
          try simp only [List.set]
          refine wpT_take 6 (v := ?_) rfl rfl (by kernel_rfl) (by kernel_rfl) (by kernel_rfl) (by kernel_rfl) (fun _ _ _ h => h) hS rfl (by intro w0 hw0; (try dsimp only at hw0); go_simp; try rfl) ?_
          try simp only [List.set]
          refine wpT_two 7 9 rfl rfl (by kernel_rfl) rfl rfl rfl rfl (fun K hK => ?_) (fun K hK => ?_)
          · go_simp
            refine (l5Some_any R (q + 30 * k + 1) 2 a1 c1 T _ (HW3.out.rd.ext (ext_drewN w3 1)) (by omega) (by omega) (by omega) (hT3.ext (ext_drewN w3 1)) (fun hp b' o' e' => (hT3.ext (ext_drewN w3 1)).notR (HW3.out.rd.ext (ext_drewN w3 1)) hp b' o' e')).mono ?_
            rintro e w4 ⟨vn, N, rfl, hg4, hr4, ho4, hsub⟩
            obtain ⟨an, cn, rfl⟩ := own_sl ho4
            have HW4 := hid ((HW3.out.ext (ext_drewN w3 1)).read hg4 hr4)
            have hz4 := hg4.size
            go_wp2_with fail
            refine hK.out _ _ ⟨HW4.out.rb.cell rfl, by obtain ⟨_, _, _, e', hcc⟩ := HW4.out.nm.2 k (by simpa [five] using hlt); cases e'; rw [Nat.zero_add] at hcc; exact hcc⟩ (fun hS1 => ?_)
            clear hK hS
            have hS := hS1
            clear hS1
            try clear K
            try simp only [put_some, List.set]
            refine wpT_take 8 (v := ?_) rfl rfl (by kernel_rfl) (by kernel_rfl) (by kernel_rfl) (by kernel_rfl) (fun _ _ _ h => h) hS rfl (by intro w0 hw0; (try dsimp only at hw0); go_simp; try rfl) ?_
            try simp only [List.set]
            refine wpT_one 9 rfl (by kernel_rfl) rfl rfl (fun K hK => ?_)
            go_simp
            refine hK.out _ _ ⟨(ext_alloc _ _).keep hS.1, (ext_alloc _ _).keep hS.2⟩ (fun hS1 => ?_)
            clear hK hS
            have hS := hS1
            clear hS1
            try clear K
            try simp only [put_some, List.set]
            refine wpT_last rfl (by kernel_rfl) (by kernel_rfl) rfl (fun K hK => ?_)
            go_simp
            refine hK.out _ _ ?_
            clear hK
            go_wp2_with fail
            go_meet
            exact ⟨w4.heap.size, _, N, rfl, WX.new HW3.out ((HW4.out.ext (ext_alloc _ _)).mono (by omega)) ho4 (ho4.ext (ext_alloc _ _)) (Rec.new w4 _ _) hz4, Nat.le_trans hsub.length_le hT8, sub_short hsub hT.short⟩
          · go_simp
            refine hK.out _ _ ⟨(ext_alloc _ _).keep hS.1, (ext_alloc _ _).keep hS.2⟩ (fun hS1 => ?_)
            clear hK hS
            have hS := hS1
            clear hS1
            try clear K
            try simp only [put_some, List.set]
            have hEA : Ext w3 (w3.drew.alloc (.cells #[.string (S []), .slice none 0 0, .slice none 0 0] 41)) := Ext.tr (ext_drewN w3 1) (ext_alloc _ _)
            have hRX : Rec (w3.drew.alloc (.cells #[.string (S []), .slice none 0 0, .slice none 0 0] 41)) w3.heap.size 41 [.string (S []), .slice none 0 0, .slice none 0 0] := Rec.new w3.drew _ _
            refine wpT_one 7 rfl (by kernel_rfl) rfl rfl (fun K hK => ?_)
            go_simp
            refine (l5Some_any R (q + 30 * k + 1) 2 a1 c1 T _ (HW3.out.rd.ext hEA) (by omega) (by omega) (by omega) (hT3.ext hEA) (fun hp b' o' e' => (hT3.ext hEA).notR (HW3.out.rd.ext hEA) hp b' o' e')).mono ?_
            rintro e w4 ⟨vn, N, rfl, hg4, hr4, ho4, hsub⟩
            obtain ⟨an, cn, rfl⟩ := own_sl ho4
            have HW4 := hid ((HW3.out.ext hEA).read hg4 hr4)
            have hz4 := hg4.size
            have hR := HW3.out.hR
            have hz3 := HW3.out.hz
            have hRX4 := hRX.kept hg4 (by simp; omega)
            simp at ho4 hz4
            go_wp2_with fail
            refine hK.out _ _ ⟨HW4.out.rb.cell rfl, by obtain ⟨_, _, _, e', hcc⟩ := HW4.out.nm.2 k (by simpa [five] using hlt); cases e'; rw [Nat.zero_add] at hcc; exact hcc⟩ (fun hS1 => ?_)
            clear hK hS
            have hS := hS1
            clear hS1
            try clear K
            try simp only [put_some, List.set]
            refine wpT_take 8 (v := ?_) rfl rfl (by kernel_rfl) (by kernel_rfl) (by kernel_rfl) (by kernel_rfl) (fun _ _ _ h => h) hS rfl (by intro w0 hw0; (try dsimp only at hw0); go_simp; try rfl) ?_
            try simp only [List.set]
            have m0 := hRX4.cell (i := 0) rfl
            have m1 := hRX4.cell (i := 1) rfl
            have m2 := hRX4.cell (i := 2) rfl
            have mf0 := hRX4.frozen 0
            have mf1 := hRX4.frozen 1
            have mf2 := hRX4.frozen 2
            have hnb : vb.ownBlock ≠ some w3.heap.size := fun e => by have := (HW3.out.ob.lt _ e).2; omega
            refine wpT_last rfl (by kernel_rfl) (by kernel_rfl) rfl (fun K hK => ?_)
            go_simp
            refine hK.out _ _ ?_
            clear hK
            go_wp2_with fail
            go_meet
            have r1 := hRX4.set 0 (.string (S (nth five k)))
            have r2 := r1.set 1 (.slice none 0 0)
            have r3 := r2.set 2 (.slice an N.length cn)
            exact ⟨w3.heap.size, _, N, rfl, WX.new HW3.out ((((HW4.out.store hRX4 hz3 hnb).store r1 hz3 hnb).store r2 hz3 hnb).mono (by omega)) (ho4.low (by omega)) ((((ho4.low (by omega)).stored hRX4 rfl _ _).stored r1 rfl _ _).stored r2 rfl _ _) r3 (Nat.le_refl _), Nat.le_trans hsub.length_le hT8, sub_short hsub hT.short⟩
        case rest =>
          obtain ⟨X, vn, N, rfl, hwx, hN8, hNs⟩ := hcut
          have HX0 := hid hwx
          clear hwx HW3 hc hq0 hT3
          go_wp2_with fail
          go_loopw [6, 9] (fun v i wr => ∃ (m : Nat) (TL' : List Str) (vh : Value) (H : List Str), m ≤ N.length ∧ i = .int .i64 m ∧ WX w wr R (q + 30 * k + 9 + m) T a1 c1 v vb TL' rs bs X (nth five k) vh vn H N ∧ H.length ≤ m ∧ TL'.length ≤ 8 * k + m) (fun _ i _ => N.length - (intOf i).toNat)
          case atStart => exact ⟨0, TL, _, [], Nat.zero_le _, rfl, HX0.out, by simp, by omega⟩
          case round =>
            clear HX0
            obtain ⟨m, TL', vh, H, hm, rfl, hwx, hHm, htl'⟩ := hrel
            have HX := hid hwx
            clear hwx
            obtain ⟨at', ct, rfl⟩ := own_sl HX.out.ws.ot
            obtain ⟨ah, ch, rfl⟩ := own_sl HX.out.oh
            obtain ⟨an, cn, rfl, hNat⟩ := HX.out.on_.at' hNs
            obtain ⟨_, _, ee, hTat⟩ := HX.out.ws.ot.at' ⟨by omega, HX.out.ws.st⟩
            simp only [Value.slice.injEq] at ee
            obtain ⟨rfl, _, rfl⟩ := ee
            have x0 := HX.out.rx.cell (i := 0) rfl
            have x1 := HX.out.rx.cell (i := 1) rfl
            have x2 := HX.out.rx.cell (i := 2) rfl
            by_cases hmlt : m < N.length
            · obtain ⟨hnl, bn, on', rfl, hcn⟩ := hNat.2 m hmlt
              cases hin : hasB TL' (nth N m)
              · go_wp2_with (go_at_call 54; refine (l1Has_v _ _ _ _ _ _ hTat hin).mono ?_; rintro e w' ⟨rfl, rfl⟩)
                refine (pick_any R (q + 30 * k + 9 + m) 2 _ HX.out.ws.rd (by omega) (by omega) (by omega)).mono ?_
                rintro e w5 ⟨j2, rfl, hj2, hg5, hr5⟩
                have HX5 := hid (HX.out.read hg5 hr5)
                clear hg5 hr5 HX x0 x1 x2 hTat hNat hcn
                by_cases hj20 : j2 = 0
                · subst hj20
                  obtain ⟨_, _, ee, hNat⟩ := HX5.out.on_.at' hNs
                  simp only [Value.slice.injEq] at ee
                  obtain ⟨rfl, _, rfl⟩ := ee
                  obtain ⟨_, _, _, ee, hcn⟩ := hNat.2 m hmlt
                  cases ee
                  have x0 := HX5.out.rx.cell (i := 0) rfl
                  have x1 := HX5.out.rx.cell (i := 1) rfl
                  have x2 := HX5.out.rx.cell (i := 2) rfl
                  have HSTR := hid (one_str w5 (nth N m) hnl)
                  have hz5 := HX5.out.ws.hz
                  go_wp2_with (at_builtin; refine wpList_strs rfl _ _ rfl rfl (HX5.out.ws.ot.ext (ext_alloc _ _)) (M := [nth N m]) rfl HSTR.out ?q1 ?q2 ?_)
                  case q1 => simp; omega
                  case q2 => simp; omega
                  · intro v' w6 hown hgrow hat
                    obtain ⟨a6, c6, rfl⟩ := own_sl hown
                    have hl6 : (TL' ++ [nth N m]).length = TL'.length + 1 := by simp
                    rw [hl6] at hown hat ⊢
                    have HX6 := hid ((HX5.out.ext (ext_alloc w5 (.cells #[.string (S (nth N m))] 9))).taken hgrow hown (HX5.out.ws.st.snoc hnl) (by simpa using hat))
                    clear hown hgrow hat HSTR HX5 x0 x1 x2 hNat hcn hz5
                    obtain ⟨_, _, ee, hNat⟩ := HX6.out.on_.at' hNs
                    simp only [Value.slice.injEq] at ee
                    obtain ⟨rfl, _, rfl⟩ := ee
                    obtain ⟨_, _, _, ee, hcn⟩ := hNat.2 m hmlt
                    cases ee
                    have x0 := HX6.out.rx.cell (i := 0) rfl
                    have x1 := HX6.out.rx.cell (i := 1) rfl
                    have x2 := HX6.out.rx.cell (i := 2) rfl
                    have hz6 := HX6.out.ws.hz
                    go_wp2_with fail
                    refine wp_region_T (fun w' => w'.cell? ⟨X, 1, none⟩ = some (.slice ah H.length ch) ∧ w'.cell? ⟨X, 2, none⟩ = some (.slice (some ⟨bn, on', none⟩) N.length cn) ∧ w'.cell? ⟨bn, on' + m, none⟩ = some (.string (S (nth N m)))) 10 (by kernel_rfl) ⟨x1, x2, hcn⟩ (fun hS => ?_)
                    refine wpT_take 0 (v := ?_) rfl rfl (by kernel_rfl) (by kernel_rfl) (by kernel_rfl) (by kernel_rfl) (fun _ _ _ h => h) hS rfl (by intro w0 hw0; (try dsimp only at hw0); go_simp; try rfl) ?_
                    try simp only [List.set]
                    refine wpT_take 1 (v := ?_) rfl rfl (by kernel_rfl) (by kernel_rfl) (by kernel_rfl) (by kernel_rfl) (fun _ _ _ h => h) hS rfl (by intro w0 hw0; (try dsimp only at hw0); go_simp; try rfl) ?_
                    try simp only [List.set]
                    refine wpT_take 2 (v := ?_) rfl rfl (by kernel_rfl) (by kernel_rfl) (by kernel_rfl) (by kernel_rfl) (fun _ _ _ h => h) hS rfl (by intro w0 hw0; (try dsimp only at hw0); go_simp; try rfl) ?_
                    try simp only [List.set]
                    refine wpT_take 3 (v := ?_) rfl rfl (by kernel_rfl) (by kernel_rfl) (by kernel_rfl) (by kernel_rfl) (fun _ _ _ h => h) hS rfl (by intro w0 hw0; (try dsimp only at hw0); go_simp; try rfl) ?_
                    try simp only [List.set]
                    refine wpT_take 4 (v := ?_) rfl rfl (by kernel_rfl) (by kernel_rfl) (by kernel_rfl) (by kernel_rfl) (fun _ _ _ h => h) hS rfl (by intro w0 hw0; (try dsimp only at hw0); go_simp; try rfl) ?_
                    try simp only [List.set]
                    refine wpT_take 5 (v := ?_) rfl rfl (by kernel_rfl) (by kernel_rfl) (by kernel_rfl) (by kernel_rfl) (fun _ _ _ h => h) hS rfl (by intro w0 hw0; (try dsimp only at hw0); go_simp; try rfl) ?_
                    try simp only [List.set]
                    refine wpT_take 6 (v := ?_) rfl rfl (by kernel_rfl) (by kernel_rfl) (by kernel_rfl) (by kernel_rfl) (fun _ _ _ h => h) hS rfl (by intro w0 hw0; (try dsimp only at hw0); go_simp; try rfl) ?_
                    try simp only [List.set]
                    refine wpT_one 7 rfl (by kernel_rfl) rfl rfl (fun K hK => ?_)
                    go_simp
                    refine hK.out _ _ ⟨(ext_alloc _ _).keep hS.1, (ext_alloc _ _).keep hS.2.1, (ext_alloc _ _).keep hS.2.2⟩ (fun hS1 => ?_)
                    clear hK hS
                    have hS := hS1
                    clear hS1
                    try clear K
                    try simp only [put_some, List.set]
                    have hEA : Ext w6 (w6.drew.alloc (.cells #[.string (S (nth N m))] 9)) := Ext.tr (ext_drewN w6 1) (ext_alloc _ _)
                    have hST := one_str w6.drew (nth N m) hnl
                    have HX7 := hid (HX6.out.ext hEA)
                    refine wpT_one 8 rfl (by kernel_rfl) rfl rfl (fun K hK => ?_)
                    refine wp_strs (L := H) (M := [nth N m]) _ _ rfl rfl HX7.out.oh rfl hST (by simp; omega) HX7.out.ws.hz (fun v' w7 h2 h3 h4 => ?_)
                    obtain ⟨a7, c7, rfl⟩ := own_sl h2
                    have hl7 : (H ++ [nth N m]).length = H.length + 1 := by simp
                    rw [hl7] at h2 h4 ⊢
                    have HX8 := hid (HX7.out.has h3 h2 (HX7.out.sh.snoc hnl) h4)
                    have rx7 := HX7.out.rx.kept h3 (HX7.out.rx.not_row rfl HX7.out.oh)
                    have hNL := own_ne HX7.out.on_ h3 HX7.out.n3
                    obtain ⟨_, _, ee, hNat7⟩ := OwnL.at' hNL hNs
                    simp only [Value.slice.injEq] at ee
                    obtain ⟨rfl, _, rfl⟩ := ee
                    obtain ⟨_, _, _, ee, hcn7⟩ := hNat7.2 m hmlt
                    cases ee
                    have y1 := rx7.cell (i := 1) rfl
                    have y2 := rx7.cell (i := 2) rfl
                    have yf := rx7.frozen 1
                    refine hK.out _ _ ⟨y1, y2, hcn7⟩ (fun hS1 => ?_)
                    clear hK hS
                    have hS := hS1
                    clear hS1
                    try clear K
                    try simp only [put_some, List.set]
                    refine wpT_take 9 (v := ?_) rfl rfl (by kernel_rfl) (by kernel_rfl) (by kernel_rfl) (by kernel_rfl) (fun _ _ _ h => h) hS rfl (by intro w0 hw0; (try dsimp only at hw0); go_simp; try rfl) ?_
                    try simp only [List.set]
                    clear hS h2 h3 h4 hEA hST HX7 HX6 rx7 hNL hNat7 hcn7 y2 x0 x1 x2 hNat hcn
                    refine wpT_last rfl (by kernel_rfl) (by kernel_rfl) rfl (fun K hK => ?_)
                    go_simp
                    refine hK.out _ _ ?_
                    clear hK
                    go_wp2
                    go_roundw
                    case rel => exact ⟨m + 1, TL' ++ [nth N m], _, H ++ [nth N m], by omega, by go_num, HX8.out.mono (by omega), by omega, by omega⟩
                    case measure => simp [intOf]; omega
                · have hj21 : ((j2 : Int) == 0) = false := by simp; omega
                  go_wp2
                  go_roundw
                  case rel => exact ⟨m + 1, TL', _, H, by omega, by go_num, HX5.out.mono (by omega), by omega, by omega⟩
                  case measure => simp [intOf]; omega
              · go_wp2_with (go_at_call 54; refine (l1Has_v _ _ _ _ _ _ hTat hin).mono ?_; rintro e w' ⟨rfl, rfl⟩)
                go_roundw
                case rel => exact ⟨m + 1, TL', _, H, by omega, by go_num, HX.out.mono (by omega), by omega, by omega⟩
                case measure => simp [intOf]; omega
            · have hbk : bs.length = rs.length := HX.out.ws.ow.1.symm
              obtain ⟨av', cv', rfl⟩ := (show OwnBs _ _ vb bs from ⟨rs, HX.out.ws.ob, HX.out.ws.ow⟩).len
              have b1 := HX.out.ws.rb.cell (i := 1) rfl
              have bf := HX.out.ws.rb.frozen 1
              have hzr := HX.out.ws.hz
              rw [hbk] at b1
              have HX9 := hid (HX.out.ext (ext_alloc wr (.cells #[.string (S (nth five k)), .slice ah H.length ch, .slice an N.length cn] 41)))
              have HOB : Hid ((wr.alloc (.cells #[.string (S (nth five k)), .slice ah H.length ch, .slice an N.length cn] 41)).ownsRow (w.heap.size + 3) 41 3 (.slice av' rs.length cv') rs.length (cellsOf rs)) := by have h := HX9.out.ws.ob; rw [hbk] at h; exact h
              have HRow : Hid (RowOwn wr (w.heap.size + 3) ⟨nth five k, .slice ah H.length ch, .slice an N.length cn⟩ ⟨nth five k, H, N⟩) := ⟨rfl, hln, HX.out.oh, ⟨by show H.length ≤ _; omega, HX.out.sh⟩, HX.out.on_, hNs⟩
              go_wp2_with (at_builtin; refine wpList_row (r := ⟨nth five k, .slice ah H.length ch, .slice an N.length cn⟩) rfl _ _ rfl rfl HOB.out rfl (one_cells wr 41 ⟨nth five k, .slice ah H.length ch, .slice an N.length cn⟩) (row_one HRow.out) ?q1 ?q2 ?_)
              case q1 => omega
              case q2 => simp; omega
              · intro v' w6 hown hgrow hat
                obtain ⟨a6, c6, rfl⟩ := own_shape3 hown
                rw [← hbk] at hgrow
                have HWN := hid (HX9.out.pushed (vb' := .slice a6 (rs.length + 1) c6) hln (by omega) hN8 hNs.2 hgrow (by rw [List.length_append]; exact hown))
                have rb6 := HX9.out.ws.rb.kept hgrow (HX9.out.ws.rb.not_row rfl HX9.out.ws.ob)
                have b16 := rb6.cell (i := 1) rfl
                have bf6 := rb6.frozen 1
                clear hown hgrow hat HX9 HX HOB HRow rb6 b1 bf x0 x1 x2 hNat hTat
                go_wp2
                go_roundw
                case rel => exact ⟨k + 1, _, TL', rs ++ [⟨nth five k, .slice ah H.length ch, .slice an N.length cn⟩], bs ++ [⟨nth five k, H, N⟩], by omega, by go_num, HWN.out.mono (by omega), by simp; omega, by omega⟩
                case measure => simp [intOf]; omega
    · have hob : OwnBs wr (w.heap.size + 3) vb bs := ⟨rs, HW.out.ob, HW.out.ow⟩
      obtain ⟨av', cv', rfl⟩ := hob.len
      have HOB := hid hob
      clear hob
      have b0 := HW.out.rb.cell (i := 0) rfl
      have b1 := HW.out.rb.cell (i := 1) rfl
      have t0 := HW.out.rr.cell (i := 0) rfl
      have t1 := HW.out.rr.cell (i := 1) rfl
      have f0 := HW.out.rr.frozen 0
      have f1 := HW.out.rr.frozen 1
      have hR := HW.out.hR
      go_wp2
      have r1 := HW.out.rr.set 0 (.slice a1 T.length c1)
      have hfin := (HOB.out.stored HW.out.rr rfl rfl 0 (.slice a1 T.length c1)).stored r1 rfl rfl 1 (.slice av' bs.length cv')
      obtain ⟨x2, y2, ee, hat⟩ := hfin.at (by omega)
      simp only [Value.slice.injEq] at ee
      obtain ⟨rfl, _, rfl⟩ := ee
      refine bodyPost_ret (v := .agg #[.slice a1 T.length c1, .slice av' bs.length cv']) (by simp [results, Try.results74, go_sem, t0, t1]) rfl ⟨bs, av', cv', rfl, ?_, ?_, hat, by omega, HW.out.sm⟩
      · exact on_grown (on_grown HW.out.on (gb_store _ _ _ _) (fun g hg => by cases hg; omega)) (gb_store _ _ _ _) (fun g hg => by cases hg; omega)
      · exact ((HW.out.rd.gb (gb_store _ _ _ _) (fun g hg => by cases hg; omega)).gb (gb_store _ _ _ _) (fun g hg => by cases hg; omega)).mono (by omega)
end Go.Proofs.Ytdafpnpfcmgfcaa
