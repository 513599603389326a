/- A region that draws its order, in a round: out of the plain walk. The walk over the program's ShareOrder and ShareSafe. Why asking is refused. -/
import Derived.Test.YtdafpnpfcmgfcaaGreatDoorKe42
import Derived.Deep.RegionLaw
import Derived.Maps.AppendAt
import Derived.RangeFuncCalls
namespace Go.Proofs.YtdafpnpfcmgfcaaGreatDoor
section
open Go.RowKit Go.Shelf
theorem oper_lift {P : Program} {o : Oper} {a : Act} {w : World} {K : Act → World → Prop} {Q : Exit → Act → World → Prop} (l : Nat) (hd : ∀ c, o.op ≠ .defer c) (h : o.wp P a w K Q) : o.wpIn (Fence.wide.inRound l) 0 P a w K Q := by
 refine ⟨fun _ _ => trivial, ?_⟩
 have e : o.semAt (Fence.wide.inRound l).round a.eval = execOp a.eval o := Oper.semAt_eq _ _ _ hd
 rw [e]
 unfold Oper.wp at h
 generalize (execOp a.eval o).run P w = r at *
 have hdep : (Fence.wide.inRound l).depth.isSome = true → 1 ≤ 0 := fun hh => by simp [Fence.wide] at hh
 cases r with
 | ok n w' =>
  cases n <;> simp only [Oper.upon, Oper.uponIn] at h ⊢ <;>
   first
    | exact h
    | exact ⟨hdep, CallsIn.mono (CallsIn.inRound l (callsIn_wide.2 h)) (fun e w'' he => by cases e <;> exact he)⟩
    | exact ⟨hdep, fun c cs _ => let ⟨v, w', r, s⟩ := h c cs; ⟨v, w', r, stepsIn_wide.2 s⟩⟩
 | halt x w' => cases x <;> simp only [Oper.upon, Oper.uponIn] at h ⊢ <;> exact h
theorem any_lift {P : Program} {md : Region.Mode} {ops : Array Oper} {Q : Exit → Act → World → Prop} (l : Nat) (hd : ∀ (j : Nat) o c, ops[j]? = some o → o.op ≠ .defer c) (hQ : ¬ LetsOut Q) :
  ∀ (fuel : Nat) (listed : Array Bool) (a : Act) (w : World), wpAny P md ops Q fuel listed a w → wpAnyIn (Fence.wide.inRound l) 0 P md ops Q fuel listed a w
 | 0, _, _, _, h => h
 | fuel + 1, listed, a, w, h => by
  refine ⟨h.1, fun i hi => ?_⟩
  have h1 := h.2 i hi
  unfold wpOp at h1
  unfold wpOpIn
  cases ho : ops[i]? with
  | none => rw [ho] at h1; exact any_lift l hd hQ fuel _ a w h1
  | some o =>
   rw [ho] at h1
   simp only at h1 ⊢
   split
   ·rename_i hw
    simp only [hw, if_true] at h1
    rcases h1 with h1 | h1
    ·exact Oper.wpIn_mono (fun a w => any_lift l hd hQ fuel _ a w) (oper_lift l (fun c => hd i o c ho) h1)
    ·exact absurd h1.2 hQ
   ·rename_i hw
    simp only [hw] at h1
    exact ⟨fun _ _ => trivial, any_lift l hd hQ fuel _ _ w h1⟩
def noDefer (ops : Array Oper) : Bool := ops.toList.all fun o => match o.op with
 | .defer _ => false
 | _ => true
theorem noDefer_spec {ops : Array Oper} (h : noDefer ops = true) (j : Nat) (o : Oper) (c : Call) (hj : ops[j]? = some o) : o.op ≠ .defer c := by
 intro e
 rw [← Array.getElem?_toList] at hj
 have h1 := List.all_eq_true.1 h o (List.mem_of_getElem? hj)
 rw [e] at h1
 cases h1
theorem wpIn_region_round {P : Program} {id : Nat} {ops : Array Oper} {Q : Exit → Act → World → Prop} {a : Act} {w : World} (l : Nat) (hm : P.follows .mixedOrders = true) (hd : noDefer ops = true) (hQ : ¬ LetsOut Q)
  (h : wpAny P .any ops Q ops.size (Array.replicate ops.size false) a w.drew) : (Code.region id ops true).wpIn (Fence.wide.inRound l) 0 P Q a w :=
 wpIn_region_any hm (any_lift l (noDefer_spec hd) hQ _ _ _ _ h)
theorem Kp.setBox {W : World} {B : Nat} {t : TypeId} {v : Value} (v' : Value) (h : Boxed W B t v) (ht : stateT t = false) : Kp W (W.setCell ⟨B, 0, none⟩ v') := by
 intro k o hk hs
 have hne : k ≠ B := fun e => by
  subst e
  have h1 : W.heap[k]? = some (.cells #[v] t (0, 0)) := h
  rw [h1] at hk; cases hk
  simp only [isState] at hs
  rw [ht] at hs; cases hs
 exact (Below.heap_setCell _ _ _ k hne).trans hk
theorem kp_appended {W w2 : World} {n₀ B : Nat} {t e : TypeId} {size : Nat} {v v' : Value} {k : Nat} {xs : List Value} {tmp : Obj} (he : stateT e = false) (ht : stateT t = false) (hrow : W.ownsRow n₀ e size v k xs) (hv1 : Boxed w2 B t v)
  (hgrow : (W.alloc tmp).grownBy w2 v.ownBlock) : Kp W (w2.setCell ⟨B, 0, none⟩ v') := by
 refine ((Kp.new W tmp).tr (Kp.grown hgrow fun j o ej hj => ?_)).tr (Kp.setBox v' hv1 ht)
 rcases (hrow.alloc tmp).2 with ⟨rfl, _⟩ | ⟨g, cap, cur, rfl, _, hgb, _⟩
 ·simp [Value.ownBlock] at ej
 ·obtain rfl : g = j := by simpa [Value.ownBlock] using ej
  rw [hgb] at hj; cases hj; exact he
def Two (md : Region.Mode) (ops : Array Oper) (i j : Nat) (L : Array Bool) : Prop :=
 Region.ready md ops L = [i] ∧ Region.ready md ops (L.setIfInBounds i true) = [j] ∧ Region.ready md ops ((L.setIfInBounds i true).setIfInBounds j true) = []
theorem with_tail {P : Program} {md : Region.Mode} {ops : Array Oper} {Q : Exit → Act → World → Prop} {n : Nat} {L : Array Bool} {a : Act} {w : World} {A : Act} {W' : World} {m i j : Nat}
  (main : (∀ L', Two md ops i j L' → wpAny P md ops Q m L' A W') → wpAny P md ops Q n L a w) (tail : ∀ L', Two md ops i j L' → wpAny P md ops Q m L' A W') : wpAny P md ops Q n L a w := main tail
end
section
open Go.RowKit Go.Shelf
attribute [local go_sem] Oper.semAt_some
attribute [local go_sem] S_toList S_size S_get
set_option maxHeartbeats 400000 in
theorem goers_any (b : Book) (a1 a2 : Option Addr) (c1 c2 : Nat) (w : World) :
  Calls Qry.prog 88 #[.agg #[.slice a1 b.things.length c1, .slice a2 b.batches.length c2]] w fun e w' =>
   e = .returned (.func (.func 111) #[] #[.pointer (some ⟨w.heap.size, 0, none⟩)]) ∧ w' = w.alloc (.cells #[.slice a1 b.things.length c1, .slice a2 b.batches.length c2] 26) := by
 go_enter Qry.func88, Tryz.ntmps88
 go_wp2
 go_ret
 exact ⟨rfl, rfl⟩
def OrdX (b : Book) (w1 : World) (xs : List (At b)) (W : World) : Prop :=
 xs.length = b.batches.length ∧ (∃ v, Boxed W w1.heap.size 23 v ∧ OwnL W w1.heap.size v (namesAt b xs)) ∧ Below w1.heap.size w1 W
def OrdI (b : Book) (w1 : World) (xs : List (At b)) (W : World) : Prop :=
 (xs.length < b.batches.length ∨ b.batches.length = 0) ∧ (∃ v, Boxed W w1.heap.size 23 v ∧ OwnL W w1.heap.size v (namesAt b xs)) ∧ Below w1.heap.size w1 W
theorem ord_quiet {b : Book} {w1 A B : World} {n : Nat} {xs : List (At b)} (hn : w1.heap.size ≤ n) (q : Quieter n A B) (h : (∃ v, Boxed A w1.heap.size 23 v ∧ OwnL A w1.heap.size v (namesAt b xs)) ∧ Below w1.heap.size w1 A) :
  (∃ v, Boxed B w1.heap.size 23 v ∧ OwnL B w1.heap.size v (namesAt b xs)) ∧ Below w1.heap.size w1 B := by
 obtain ⟨⟨v, h1, h2⟩, h3⟩ := h
 exact ⟨⟨v, q.same _ _ h1 rfl rfl, ownsRow_block h2 (fun g c hg => q.same _ _ hg rfl rfl)⟩, h3.trans (q.below.mono hn)⟩
theorem OrdI.quiet {b : Book} {w1 : World} {n : Nat} (hn : w1.heap.size ≤ n) : ∀ s A B, OrdI b w1 s A → Quieter n A B → OrdI b w1 s B := fun _ _ _ h q => ⟨h.1, ord_quiet hn q h.2⟩
theorem OrdX.quiet {b : Book} {w1 : World} {n : Nat} (hn : w1.heap.size ≤ n) : ∀ s A B, OrdX b w1 s A → Quieter n A B → OrdX b w1 s B := fun _ _ _ h q => ⟨h.1, ord_quiet hn q h.2⟩
theorem own_len {w : World} {base : Nat} {v : Value} {ss : List Str} (h : OwnL w base v ss) : ∃ a cap, v = .slice a ss.length cap := by
 rcases h.2 with ⟨rfl, h0⟩ | ⟨g, cap, cur, rfl, _⟩
 ·exact ⟨none, 0, by rw [h0]⟩
 ·exact ⟨_, cap, rfl⟩
theorem Gr.none {b : Book} {xs : List (At b)} (hok : bookOk b = true) (h : Gr b xs) (hn : nextOf b (namesAt b xs) = none) (hlt : xs.length < b.batches.length) : orderL b = [] ∧ safeB b = false := by
 have e : orderOf b = Option.none := by
  have e1 : b.batches.length = (b.batches.length - xs.length - 1 + 1) + xs.length := by omega
  unfold orderOf
  rw [if_pos hok, e1, h, greedy_none hn]
 constructor
 ·simp [orderL, e]
 ·simp [safeB, e]
theorem Gr.all {b : Book} {xs : List (At b)} (hok : bookOk b = true) (h : Gr b xs) (hlen : xs.length = b.batches.length) : orderL b = namesAt b xs ∧ safeB b = true := by
 have e : orderOf b = some (namesAt b xs) := by
  have e1 : b.batches.length = 0 + xs.length := by omega
  unfold orderOf
  rw [if_pos hok, e1, h]; rfl
 constructor
 ·simp [orderL, e]
 ·simp [safeB, e]
theorem at_none {b : Book} (h : b.batches.length = 0) (xs : List (At b)) : xs.length = b.batches.length := by
 cases xs with
 | nil => simp [h]
 | cons x _ => exact absurd x.2 (by omega)
theorem own_base {w : World} {base base' : Nat} {v : Value} {ss : List Str} (h : OwnL w base v ss) (hb : base' ≤ base) : OwnL w base' v ss := by
 refine ⟨h.1, ?_⟩
 rcases h.2 with h2 | ⟨g, cap, cur, hv, hg, r⟩
 ·exact Or.inl h2
 ·exact Or.inr ⟨g, cap, cur, hv, by omega, r⟩
set_option maxHeartbeats 1000000 in
set_option maxRecDepth 100000 in
theorem implOrder_any (b : Book) (a1 a2 : Option Addr) (c1 c2 : Nat) (w : World) (hb : BookAt w a1 a2 b) :
  Calls Qry.prog 61 #[.agg #[.slice a1 b.things.length c1, .slice a2 b.batches.length c2]] w fun e w' =>
   ∃ v, e = .returned (.tuple #[v, .bool (safeB b)]) ∧ Ext w w' ∧ OwnL w' w.heap.size v (orderL b) := by
 have hal : ∀ o, Ext w (w.alloc o) := fun o => (Below.refl _ _).alloc (Nat.le_refl _) _
 have hn := hb.2.1
 obtain ⟨i0, hi, hz0, hz1, hz2⟩ := info_str
 cases hok : bookOk b
 ·have HF : Hid (orderL b = [] ∧ safeB b = false) := by constructor <;> simp [orderL, safeB, orderOf, hok]
  go_enter Qry.func61, Tryz.ntmps61
  go_wp2_with fail
  refine (implBookOk_any b _ _ _ _ _ (hb.ext (hal _))).mono ?_
  rintro e w1 ⟨rfl, hext1⟩
  have HE1 := hid (Ext.tr (hal _) hext1)
  clear hext1
  go_wp2_with fail
  go_ret2
  refine ⟨.slice none 0 0, by rw [HF.out.2]; rfl, HE1.out, ?_⟩
  rw [HF.out.1]; exact World.ownsRow_nil _ _ _ _
 ·have HOK := hid hok
  clear hok
  refine callsIn_wide.1 (callsIn_of_wp_marks (n := 0) Qry.func61 rfl trivial (wpIn_wide.2 ?_) rfl)
  simp only [Tryz.ntmps61, List.size_toArray, List.length_cons, List.length_nil, Nat.reduceAdd, Nat.reduceSub, Array.replicate_succ, Array.replicate_zero, List.push_toArray, List.append_toArray, List.nil_append, List.cons_append]
  go_wp2_with fail
  refine (implBookOk_any b _ _ _ _ _ (hb.ext (hal _))).mono ?_
  rintro e w1 ⟨rfl, hext1⟩
  have HE1 := hid hext1
  clear hext1
  have hx0 := box_cell HE1.out (i := 0) rfl
  have hx1 := box_cell HE1.out (i := 1) rfl
  have hok := HOK.out
  have hzz := HE1.out.size
  simp at hzz
  have hzz' : w.heap.size < w1.heap.size := hzz
  go_wp2_with fail
  refine (goers_any b _ _ _ _ _).mono ?_
  rintro e w2 ⟨rfl, rfl⟩
  go_wp2_with fail
  have HE0 := hid (Ext.tr (hal _) HE1.out)
  have hbox := Boxed.new w1 23 (.slice none 0 0)
  have hB0 : Below w1.heap.size w1 ((w1.alloc (.cells #[.slice none 0 0] 23)).alloc (.cells #[.slice a1 b.things.length c1, .slice a2 b.batches.length c2] 26)) := ((Below.refl _ w1).alloc (Nat.le_refl _) _).alloc (by simp) _
  have hs0 : (w1.alloc (.cells #[.slice none 0 0] 23)).heap.size = w1.heap.size + 1 := by simp
  have g0 : ((w1.alloc (.cells #[.slice none 0 0] 23)).alloc (.cells #[.slice a1 b.things.length c1, .slice a2 b.batches.length c2] 26)).cell? ⟨w1.heap.size + 1, 0, none⟩ = some (.slice a1 b.things.length c1) := by
   rw [← hs0]; simp
  have g1 : ((w1.alloc (.cells #[.slice none 0 0] 23)).alloc (.cells #[.slice a1 b.things.length c1, .slice a2 b.batches.length c2] 26)).cell? ⟨w1.heap.size + 1, 1, none⟩ = some (.slice a2 b.batches.length c2) := by
   rw [← hs0]; simp
  refine wp_range_state (gf := 111) (lb := #[.pointer (some ⟨w1.heap.size + 1, 0, none⟩)]) rfl (enters_of Qry.func111 (by kernel_rfl) rfl) (fun x : At b => .int .i64 ((x.val : Nat) : Int)) rfl
   (goers_state b (w1.heap.size + 1) a1 a2 c1 c2 _ g0 g1 (hb.ext (Ext.tr HE0.out hB0)) HOK.out)
   (OrdI b w1) (OrdX b w1) (OrdI.quiet (by simp; omega)) (OrdX.quiet (by simp; omega)) ?start
   (fun x => { tmps := #[.agg #[.slice a1 b.things.length c1, .slice a2 b.batches.length c2], .pointer (some ⟨w.heap.size, 0, none⟩), .slice none 0 0, .bool false, .pointer (some ⟨w1.heap.size, 0, none⟩), .int .i64 ((x.val : Nat) : Int), .agg #[.slice a1 b.things.length c1, .slice a2 b.batches.length c2], .bool true, .bool false, .agg #[.slice a1 b.things.length c1, .slice a2 b.batches.length c2], .func (.func 111) #[] #[.pointer (some ⟨w1.heap.size + 1, 0, none⟩)], .int .i64 ((x.val : Nat) : Int), undef, undef, undef, undef, undef, undef, undef, undef, undef, undef, undef, undef, undef, undef, undef, undef, undef, undef, undef, undef, undef, undef], defers := [] }) 0 ?assign ?body ?done ?stop
  case start =>
   refine ⟨by simp only [List.length_nil]; omega, ⟨.slice none 0 0, hbox.alloc _, World.ownsRow_nil _ _ _ _⟩, hB0⟩
  case assign =>
   intro l x W K hK
   gi_wp2
   exact hK
  case body =>
   rintro l pre x W ⟨hlen, ⟨v, hv, hrow⟩, hB⟩
   have hlt : pre.length < b.batches.length := by have := x.2; omega
   have hN : pre.length ≤ 5 := by have := ok_five HOK.out; omega
   have hb' := hb.ext (Ext.tr HE0.out hB)
   have p0 := (hB.cell (p := ⟨w.heap.size, 0, none⟩) hzz').trans hx0
   have p1 := (hB.cell (p := ⟨w.heap.size, 1, none⟩) hzz').trans hx1
   have hc := hv.cell
   have hxl := x.2
   have hlm : (namesAt b pre).length = pre.length := by simp [namesAt]
   obtain ⟨ba, oa, rfl, hl, d1, q1, d2, q2, n0, n1, n2, s1, s2⟩ := hb'.2.2 x.val x.2
   have hvl := hv.lt
   have HROW := hid hrow
   have HV := hid hv
   have HB := hid hB
   have HSM := hid s1
   clear hrow hv hB hb' s1 s2 n1 n2 hx0 hx1 g0 g1 hbox hB0 hs0
   gi_wp2_with fail
   refine wpIn_region_round l (by kernel_rfl) (by kernel_rfl) (by rintro ⟨_, _, h⟩; exact h) ?_
   refine with_tail (m := 2) (i := 8) (j := 9) (A := { tmps := #[.agg #[.slice a1 b.things.length c1, .slice (some ⟨ba, oa, none⟩) b.batches.length c2], .pointer (some ⟨w.heap.size, 0, none⟩), .slice none 0 0, .bool false, .pointer (some ⟨w1.heap.size, 0, none⟩), .int .i64 ((x.val : Nat) : Int), .agg #[.slice a1 b.things.length c1, .slice (some ⟨ba, oa, none⟩) b.batches.length c2], .bool true, .bool false, .agg #[.slice a1 b.things.length c1, .slice (some ⟨ba, oa, none⟩) b.batches.length c2], .func (.func 111) #[] #[.pointer (some ⟨w1.heap.size + 1, 0, none⟩)], .int .i64 ((x.val : Nat) : Int), v, .pointer (some ⟨w.heap.size, 1, none⟩), .slice (some ⟨ba, oa, none⟩) b.batches.length c2, .int .i64 ((x.val : Nat) : Int), .pointer (some ⟨ba, oa + x.val * 3, none⟩), .pointer (some ⟨ba, oa + x.val * 3, none⟩), .string (S (nthB b.batches x.val).name), .slice (some ⟨W.heap.size, 0, none⟩) 1 1, undef, undef, undef, undef, undef, undef, undef, undef, undef, undef, undef, undef, undef, undef], defers := [] }) (W' := W.drew.alloc (.cells #[.string (S (nthB b.batches x.val).name)] 9)) (fun ht => ?main) ?tail
   case main =>
    refine wpAny_take (i := 1) (v := ?_) rfl (by kernel_rfl) (by kernel_rfl) (by kernel_rfl) (fun _ _ _ h => h) (Or.inl ⟨by rfl, by intro w; go_simp; rfl⟩) ?_
    refine wpAny_take (i := 3) (v := ?_) rfl (by kernel_rfl) (by kernel_rfl) (by kernel_rfl) (fun _ _ _ h => h) (Or.inl ⟨by rfl, by intro w; go_simp; rfl⟩) ?_
    refine wpAny_ready (rs := [0, 2]) (by kernel_rfl) (by simp) (AllReady.cons rfl (fun K hK => ?_) (AllReady.cons rfl (fun K hK => ?_) AllReady.nil))
    ·go_simp
     refine hK _ _ ?_
     clear hK K
     refine wpAny_ready (rs := [2]) (by kernel_rfl) (by simp) (AllReady.cons rfl (fun K hK => ?_) AllReady.nil)
     go_simp
     refine hK _ _ ?_
     clear hK K
     refine wpAny_ready (rs := [4]) (by kernel_rfl) (by simp) (AllReady.cons rfl (fun K hK => ?_) AllReady.nil)
     go_simp
     refine hK _ _ ?_
     clear hK K
     refine wpAny_ready (rs := [5]) (by kernel_rfl) (by simp) (AllReady.cons rfl (fun K hK => ?_) AllReady.nil)
     go_simp
     refine hK _ _ ?_
     clear hK K
     refine wpAny_ready (rs := [6]) (by kernel_rfl) (by simp) (AllReady.cons rfl (fun K hK => ?_) AllReady.nil)
     go_simp
     refine hK _ _ ?_
     clear hK K
     refine wpAny_ready (rs := [7]) (by kernel_rfl) (by simp) (AllReady.cons rfl (fun K hK => ?_) AllReady.nil)
     go_simp
     refine hK _ _ ?_
     clear hK K
     exact ht _ ⟨by kernel_rfl, by kernel_rfl, by kernel_rfl⟩
    ·go_simp
     refine hK _ _ ?_
     clear hK K
     refine wpAny_take (i := 4) (v := ?_) rfl (by kernel_rfl) (by kernel_rfl) (by kernel_rfl) (fun _ _ _ h => h) (Or.inl ⟨by rfl, by intro w; go_simp; rfl⟩) ?_
     refine wpAny_take (i := 5) (v := ?_) rfl (by kernel_rfl) (by kernel_rfl) (by kernel_rfl) (fun _ _ _ h => h) (Or.inl ⟨by rfl, by intro w; go_simp; rfl⟩) ?_
     refine wpAny_ready (rs := [0, 6]) (by kernel_rfl) (by simp) (AllReady.cons rfl (fun K hK => ?_) (AllReady.cons rfl (fun K hK => ?_) AllReady.nil))
     ·go_simp
      refine hK _ _ ?_
      clear hK K
      refine wpAny_ready (rs := [6]) (by kernel_rfl) (by simp) (AllReady.cons rfl (fun K hK => ?_) AllReady.nil)
      go_simp
      refine hK _ _ ?_
      clear hK K
      refine wpAny_ready (rs := [7]) (by kernel_rfl) (by simp) (AllReady.cons rfl (fun K hK => ?_) AllReady.nil)
      go_simp
      refine hK _ _ ?_
      clear hK K
      exact ht _ ⟨by kernel_rfl, by kernel_rfl, by kernel_rfl⟩
     ·go_simp
      refine hK _ _ ?_
      clear hK K
      refine wpAny_ready (rs := [0, 7]) (by kernel_rfl) (by simp) (AllReady.cons rfl (fun K hK => ?_) (AllReady.cons rfl (fun K hK => ?_) AllReady.nil))
      ·go_simp
       refine hK _ _ ?_
       clear hK K
       refine wpAny_ready (rs := [7]) (by kernel_rfl) (by simp) (AllReady.cons rfl (fun K hK => ?_) AllReady.nil)
       go_simp
       refine hK _ _ ?_
       clear hK K
       exact ht _ ⟨by kernel_rfl, by kernel_rfl, by kernel_rfl⟩
      ·go_simp
       refine hK _ _ ?_
       clear hK K
       refine wpAny_ready (rs := [0]) (by kernel_rfl) (by simp) (AllReady.cons rfl (fun K hK => ?_) AllReady.nil)
       go_simp
       refine hK _ _ ?_
       clear hK K
       exact ht _ ⟨by kernel_rfl, by kernel_rfl, by kernel_rfl⟩
   case tail =>
    rintro L' ⟨r1, r2, r3⟩
    have hvd : Boxed W.drew w1.heap.size 23 v := HV.out
    have hrowd : W.drew.ownsRow w1.heap.size 9 1 v (namesAt b pre).length ((namesAt b pre).map fun s => .string (S s)) := HROW.out.drew
    have hsz : w1.heap.size ≤ W.drew.heap.size := HB.out.size
    refine wpAny_ready (rs := [8]) r1 (by simp) (AllReady.cons rfl (fun K hK => ?_) AllReady.nil)
    refine step_append_own_at rfl (.tmp 12) (.tmp 19) 23 rfl w1.heap.size 9 i0 (.string (S [])) 1 16 (uQ Tryz.underlying23) hi hz0 hz1 hz2 rfl (by decide) v _ _ rfl (hrowd.alloc _) ⟨W.heap.size, 0, none⟩ 1 1 [.string (S (nthB b.batches x.val).name)] rfl rfl (cell_one_new _ _ _) (by simp [Value.oneCell']) (by unfold maxLen; omega) (by omega) (by simp; omega) ?_
    intro v' w2 hown' hgrow _
    obtain ⟨g', cap', rfl⟩ := ownsRow_succ hown'
    obtain ⟨hv1, hv2, hr2, hk2, hb2⟩ := hvd.appended (by decide) hrowd hsz (Nat.le_refl _) hown' hgrow
    have hkp := kp_appended (v' := .slice (some ⟨g', 0, none⟩) ((namesAt b pre).length + 1) cap') rfl rfl hrowd hv1 hgrow
    have hown3 : OwnL (w2.setCell ⟨w1.heap.size, 0, none⟩ (.slice (some ⟨g', 0, none⟩) ((namesAt b pre).length + 1) cap')) w1.heap.size (.slice (some ⟨g', 0, none⟩) ((namesAt b pre).length + 1) cap') (namesAt b (pre ++ [x])) := by
     rw [namesAt_snoc]; exact OwnL.step hr2
    rw [hlm] at hv2 hk2 hb2 hkp hown3
    clear hr2 hown' hgrow
    have hc1 := hv1.cell
    have hf1 := hv1.frozen
    refine hK _ _ ?_
    clear hK K
    refine wpAny_ready (rs := [9]) r2 (by simp) (AllReady.cons rfl (fun K hK => ?_) AllReady.nil)
    go_simp
    refine hK _ _ ?_
    clear hK K
    refine wpAny_done r3 ?_ _
    generalize w2.setCell ⟨w1.heap.size, 0, none⟩ (.slice (some ⟨g', 0, none⟩) (pre.length + 1) cap') = W3 at hv2 hk2 hb2 hkp hown3 ⊢
    have HV3 := hid hv2
    have HO3 := hid hown3
    have HK3 : Hid (KeepsOthers W W3) := ⟨hk2.size, hk2.same⟩
    have HP3 : Hid (Kp W W3) := hkp
    have HB3 : Hid (Below w1.heap.size w1 W3) := Below.trans HB.out.drew hb2
    have hc3 := hv2.cell
    have t0 : W3.cell? ⟨w.heap.size, 0, none⟩ = some (.slice a1 b.things.length c1) := (hb2.cell (p := ⟨w.heap.size, 0, none⟩) hzz').trans p0
    have t1 : W3.cell? ⟨w.heap.size, 1, none⟩ = some (.slice (some ⟨ba, oa, none⟩) b.batches.length c2) := (hb2.cell (p := ⟨w.heap.size, 1, none⟩) hzz').trans p1
    have hls : (pre ++ [x]).length = pre.length + 1 := by simp
    clear hv2 hk2 hb2 hkp hown3 hv1 hc1 hf1 r1 r2 r3 hvd hrowd p0 p1 hc n0
    by_cases hlast : pre.length + 1 = b.batches.length
    ·gi_wp2
     exact ⟨HK3.out, rfl, by rw [hls]; exact hlast, ⟨_, HV3.out, HO3.out⟩, HB3.out⟩
    ·gi_wp2
     exact ⟨HK3.out, HP3.out, by rw [hls]; omega, ⟨_, HV3.out, HO3.out⟩, HB3.out⟩
  case done =>
   rintro D xs W hD ⟨hgr, hnone⟩ ⟨hlen, ⟨v, hv, hrow⟩, hB⟩ hK
   have p0 := (hB.cell (p := ⟨w.heap.size, 0, none⟩) hzz').trans hx0
   have p1 := (hB.cell (p := ⟨w.heap.size, 1, none⟩) hzz').trans hx1
   have hlm : (namesAt b xs).length = xs.length := by simp [namesAt]
   obtain ⟨av, cv, rfl⟩ := own_len hrow
   rw [hlm] at hv
   have hc := hv.cell
   have HROW := hid hrow
   have HB : Hid (Ext w (W.putObj D (.deferred none))) := Ext.tr HE0.out (hB.trans (belowK_b (w := w1) (Nat.le_refl _) W D _ _ (by simp at hD; omega) hK rfl rfl))
   have HN := hid hnone
   have HGR := hid hgr
   clear hnone hgr hrow hB hx0 hx1 g0 g1 hbox hB0 hs0 hv
   rcases hlen with hlt | hz
   ·have HF := hid (Gr.none HOK.out HGR.out HN.out hlt)
    go_wp2
    refine ⟨by simp, .inl ⟨_, _, rfl, run_takeDeferred hK, ?_⟩⟩
    refine ⟨_, results_tmp2 rfl _ _ _, .slice none 0 0, by rw [HF.out.2]; rfl, HB.out, ?_⟩
    rw [HF.out.1]; exact World.ownsRow_nil _ _ _ _
   ·have hall := at_none hz xs
    have HF := hid (Gr.all HOK.out HGR.out hall)
    have HR : Hid (OwnL (W.putObj D (.deferred none)) w.heap.size (.slice av (namesAt b xs).length cv) (namesAt b xs)) := own_base (ownsRow_putObj HROW.out _ hK rfl) (by omega)
    go_wp2
    refine ⟨by simp, .inl ⟨_, _, rfl, run_takeDeferred hK, ?_⟩⟩
    refine ⟨_, results_tmp2 rfl _ _ _, .slice av (namesAt b xs).length cv, by rw [HF.out.2, hlm, hall, hz]; rfl, HB.out, ?_⟩
    rw [HF.out.1]; exact HR.out
  case stop =>
   rintro D xs W hD hgr ⟨hlen, ⟨v, hv, hrow⟩, hB⟩ hK
   have p0 := (hB.cell (p := ⟨w.heap.size, 0, none⟩) hzz').trans hx0
   have p1 := (hB.cell (p := ⟨w.heap.size, 1, none⟩) hzz').trans hx1
   have hlm : (namesAt b xs).length = xs.length := by simp [namesAt]
   obtain ⟨av, cv, rfl⟩ := own_len hrow
   rw [hlm] at hv
   have hc := hv.cell
   have HROW := hid hrow
   have HB : Hid (Ext w (W.putObj D (.deferred none))) := Ext.tr HE0.out (hB.trans (belowK_b (w := w1) (Nat.le_refl _) W D _ _ (by simp at hD; omega) hK rfl rfl))
   have HF := hid (Gr.all HOK.out hgr hlen)
   have HR : Hid (OwnL (W.putObj D (.deferred none)) w.heap.size (.slice av (namesAt b xs).length cv) (namesAt b xs)) := own_base (ownsRow_putObj HROW.out _ hK rfl) (by omega)
   clear hgr hrow hB hx0 hx1 g0 g1 hbox hB0 hs0 hv
   go_wp2
   refine ⟨by simp, .inl ⟨_, _, rfl, run_takeDeferred hK, ?_⟩⟩
   refine ⟨_, results_tmp2 rfl _ _ _, .slice av (namesAt b xs).length cv, by rw [HF.out.2, hlm, hlen]; rfl, HB.out, ?_⟩
   rw [HF.out.1]; exact HR.out
set_option maxHeartbeats 400000 in
theorem implSafe_any (b : Book) (a1 a2 : Option Addr) (c1 c2 : Nat) (w : World) (hb : BookAt w a1 a2 b) :
  Calls Qry.prog 18 #[.agg #[.slice a1 b.things.length c1, .slice a2 b.batches.length c2]] w fun e w' => e = .returned (.bool (safeB b)) ∧ Ext w w' := by
 go_enter Qry.func18, Tryz.ntmps18
 go_wp2_with fail
 refine (implOrder_any b _ _ _ _ _ (hb.ext (ext_alloc _ _))).mono ?_
 rintro e w1 ⟨v, rfl, hext, _⟩
 have HE := hid (Ext.tr (ext_alloc _ _) hext)
 clear hext
 go_wp2_with fail
 go_ret
 exact ⟨rfl, HE.out⟩
end
section
open Go.RowKit
attribute [local go_sem] S_toList S_size S_get
theorem askC_1 {b : Book} {n : Str} {things : List Str} (h : hereB b n = false) : askC b n things = 3 := by unfold askC; rw [if_pos h]
theorem askC_2 {b : Book} {n : Str} {things : List Str} {k : Nat} (h : hereB b n = true) (hk : whereB b n = k) (h2 : namesOk things (nthB b.batches k).needs = false) : askC b n things = 2 := by
 subst hk; unfold askC; rw [if_neg (by simp [h]), if_pos (show namesOk things (b.at (whereB b n)).needs = false from h2)]
theorem askC_3 {b : Book} {n : Str} {things : List Str} {k : Nat} (h : hereB b n = true) (hk : whereB b n = k) (h2 : namesOk things (nthB b.batches k).needs = true) (h3 : takenB b k things = true) : askC b n things = 5 := by
 subst hk; unfold askC; rw [if_neg (by simp [h]), if_neg (by rw [show (b.at (whereB b n)).needs = (nthB b.batches (whereB b n)).needs from rfl, h2]; simp), if_pos h3]
theorem askC_4 {b : Book} {n : Str} {things : List Str} {k : Nat} (h : hereB b n = true) (hk : whereB b n = k) (h2 : namesOk things (nthB b.batches k).needs = true) (h3 : takenB b k things = false) :
  askC b n things = if safeB b = true ∧ safeB (giveB b k things) = false then 6 else 0 := by
 subst hk; unfold askC; rw [if_neg (by simp [h]), if_neg (by rw [show (b.at (whereB b n)).needs = (nthB b.batches (whereB b n)).needs from rfl, h2]; simp), if_neg (by simp [h3])]
set_option maxRecDepth 100000 in
set_option maxHeartbeats 2000000 in
theorem askRef_any (b : Book) (n : Str) (things : List Str) (a1 a2 a3 : Option Addr) (c1 c2 c3 : Nat) (w : World) (hb : BookAt w a1 a2 b) (hn : StrsAt w a3 things) (hok : bookOk b = true) :
  Calls Qry.prog 179 #[.agg #[.string (S n), .slice a3 things.length c3], .agg #[.slice a1 b.things.length c1, .slice a2 b.batches.length c2]] w fun e w' => e = .returned (whyV (askC b n things)) ∧ Ext w w' := by
 go_enter Qry.func179, Tryz.ntmps179
 go_wp2_with fail
 refine (placeOf_any b n _ _ _ _ _ (hb.ext (ext_two _ _ _)) hok).mono ?_
 rintro e w1 ⟨rfl, hE1⟩
 have p0 := box1of2 hE1 (i := 0) rfl
 have p1 := box1of2 hE1 (i := 1) rfl
 have q0 := box2of2 hE1 (i := 0) rfl
 have q1 := box2of2 hE1 (i := 1) rfl
 have HE := hid (Ext.tr (ext_two _ _ _) hE1)
 clear hE1
 cases hh : hereB b n
 ·have HC : Hid (askC b n things = 3) := askC_1 hh
  clear hh
  go_wp2_with fail
  go_ret
  exact ⟨ret_why (k := 3) HC.out (by omega), HE.out⟩
 ·have hk := where_lt hh
  have hw := ok_where hok hh
  rw [hw]
  have HH := hid hh
  clear hh hw
  generalize hke : whereB b n = k at *
  have HKE := hid hke
  clear hke
  obtain ⟨bb, oo, rfl, h0, x1, y1, x2, y2, d0, d1, d2, s1, s2⟩ := (hb.ext HE.out).2.2 k hk
  have h5 := ok_five hok
  clear h0 d0 d1
  go_wp2_with fail
  refine wp_region_T (fun w' => w'.cell? ⟨w.heap.size, 1, none⟩ = some (.slice a3 things.length c3) ∧ w'.cell? ⟨w.heap.size + 1, 1, none⟩ = some (.slice (some ⟨bb, oo, none⟩) b.batches.length c2) ∧ w'.cell? ⟨bb, oo + k * 3 + 2, none⟩ = some (.slice x2 (nthB b.batches k).needs.length y2)) 11 (by kernel_rfl) ⟨p1, q1, d2⟩ (fun hS => ?_)
  refine tn 0 hS ?_
  try simp only [List.set]
  refine tn 1 hS ?_
  try simp only [List.set]
  refine tn 2 hS ?_
  try simp only [List.set]
  refine tn 3 hS ?_
  try simp only [List.set]
  refine tn 4 hS ?_
  try simp only [List.set]
  refine tn 5 hS ?_
  try simp only [List.set]
  refine tn 6 hS ?_
  try simp only [List.set]
  refine tn 7 hS ?_
  try simp only [List.set]
  refine wpT_one 8 rfl (by kernel_rfl) rfl rfl (fun K hK => ?_)
  go_simp
  cases hp : namesOk things (nthB b.batches k).needs
  ·have HC : Hid (askC b n things = 2) := askC_2 HH.out HKE.out hp
   refine (picked_v _ _ _ _ _ _ _ _ ((hn.ext HE.out).drewN 1) (s2.drewN 1) hp).mono ?_
   rintro e w3 ⟨rfl, j, hw3⟩
   have hE3 : Ext w1 w3 := by rw [hw3]; exact Ext.tr (ext_drewN _ 1) (ext_drewN _ _)
   have HE3 := hid (Ext.tr HE.out hE3)
   clear hw3
   go_wp2_with fail
   refine hK.out _ _ ⟨hE3.keep p1, hE3.keep q1, hE3.keep d2⟩ (fun hS1 => ?_)
   clear hK hS
   have hS := hS1
   clear hS1
   try clear K
   try simp only [put_some, List.set]
   refine tn 9 hS ?_
   try simp only [List.set]
   refine tn 10 hS ?_
   try simp only [List.set]
   refine wpT_done (by kernel_rfl) ?_ _
   clear hE3 hp
   go_wp2_with fail
   go_ret
   exact ⟨ret_why (k := 2) HC.out (by omega), HE3.out⟩
  ·have HP := hid hp
   refine (picked_v _ _ _ _ _ _ _ _ ((hn.ext HE.out).drewN 1) (s2.drewN 1) hp).mono ?_
   rintro e w3 ⟨rfl, j, hw3⟩
   have hE3 : Ext w1 w3 := by rw [hw3]; exact Ext.tr (ext_drewN _ 1) (ext_drewN _ _)
   have HE3 := hid (Ext.tr HE.out hE3)
   clear hw3
   go_wp2_with fail
   refine hK.out _ _ ⟨hE3.keep p1, hE3.keep q1, hE3.keep d2⟩ (fun hS1 => ?_)
   clear hK hS
   have hS := hS1
   clear hS1
   try clear K
   try simp only [put_some, List.set]
   refine tn 9 hS ?_
   try simp only [List.set]
   refine tn 10 hS ?_
   try simp only [List.set]
   refine wpT_done (by kernel_rfl) ?_ _
   replace p0 := hE3.keep p0
   replace p1 := hE3.keep p1
   replace q0 := hE3.keep q0
   replace q1 := hE3.keep q1
   clear hE3 hp hS d2 s1 s2 HE
   go_wp2_with fail
   cases ht : takenB b k things
   ·refine (hadBy_v b k things false _ _ _ _ _ _ _ (hb.ext HE3.out) (hn.ext HE3.out) hok hk ht).mono ?_
    rintro e w4 ⟨rfl, hE4⟩
    have HU := hid (askC_4 HH.out HKE.out HP.out ht)
    have HE4 := hid (Ext.tr HE3.out hE4)
    replace p0 := hE4.keep p0
    replace p1 := hE4.keep p1
    replace q0 := hE4.keep q0
    replace q1 := hE4.keep q1
    clear hE4 ht HE3
    go_wp2_with fail
    refine (implSafe_any b _ _ _ _ _ (hb.ext HE4.out)).mono ?_
    rintro e w5 ⟨rfl, hE5⟩
    have HE5 := hid (Ext.tr HE4.out hE5)
    replace p0 := hE5.keep p0
    replace p1 := hE5.keep p1
    replace q0 := hE5.keep q0
    replace q1 := hE5.keep q1
    clear hE5 HE4
    cases hs : safeB b
    ·have HC : Hid (askC b n things = 0) := by show _ = _; rw [HU.out, hs]; simp
     clear hs
     go_wp2_with fail
     go_ret
     exact ⟨ret_why0 HC.out, HE5.out⟩
    ·have HS := hid hs
     clear hs
     go_wp2_with fail
     refine (doneA_any b n things _ _ _ _ _ _ _ (hb.ext HE5.out) (hn.ext HE5.out) hok HH.out (by rw [HKE.out]; exact HP.out)).mono ?_
     rintro e w6 ⟨v1, v2, rs, rfl, hE6, hO6⟩
     have hgl : (giveB b (whereB b n) things).batches.length ≤ 2199023255552 := by
      show (b.batches.set _ _).length ≤ _
      rw [List.length_set]; omega
     obtain ⟨g1, g2, g3, g4, rfl, rfl, hat6⟩ := hO6.at hgl
     rw [HKE.out] at hat6
     have HAT6 := hid hat6
     have HE6 := hid (Ext.tr HE5.out hE6)
     clear hE6 hO6 hat6 hgl HE5
     rw [HKE.out]
     go_wp2_with fail
     refine (implSafe_any (giveB b k things) _ _ _ _ _ HAT6.out).mono ?_
     rintro e w7 ⟨rfl, hE7⟩
     have HE7 := hid (Ext.tr HE6.out hE7)
     clear hE7 HE6
     cases hg : safeB (giveB b k things)
     ·have HC : Hid (askC b n things = 6) := by show _ = _; rw [HU.out, HS.out, hg]; simp
      clear hg
      go_wp2_with fail
      go_ret
      exact ⟨ret_why (k := 6) HC.out (by omega), HE7.out⟩
     ·have HC : Hid (askC b n things = 0) := by show _ = _; rw [HU.out, HS.out, hg]; simp
      clear hg
      go_wp2_with fail
      go_ret
      exact ⟨ret_why0 HC.out, HE7.out⟩
   ·have HC : Hid (askC b n things = 5) := askC_3 HH.out HKE.out HP.out ht
    refine (hadBy_v b k things true _ _ _ _ _ _ _ (hb.ext HE3.out) (hn.ext HE3.out) hok hk ht).mono ?_
    rintro e w4 ⟨rfl, hE4⟩
    have HE4 := hid (Ext.tr HE3.out hE4)
    clear hE4 ht
    go_wp2_with fail
    go_ret
    exact ⟨ret_why (k := 5) HC.out (by omega), HE4.out⟩
end
end Go.Proofs.YtdafpnpfcmgfcaaGreatDoor
