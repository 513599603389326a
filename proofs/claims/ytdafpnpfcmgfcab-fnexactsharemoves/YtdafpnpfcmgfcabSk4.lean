/- ShareMoves, beside those that are only leaving. -/
import Derived.Test.YtdafpnpfcmgfcabSk3
namespace Go.Proofs.Ytdafpnpfcmgfcab
open Go Go.Conc Go.ConcN Go.RowKit
attribute [local go_sem] S_toList S_size S_get

/-- All orders that the tape can pick. -/
def ords (md : Region.Mode) (ops : Array Oper) : Nat → Array Bool → List (List Nat)
  | 0, _ => [[]]
  | fuel + 1, listed => match Region.ready md ops listed with
    | [] => [[]]
    | rs => rs.flatMap fun i => (ords md ops fuel (listed.setIfInBounds i true)).map (i :: ·)
theorem go_mem (md : Region.Mode) (ops : Array Oper) : ∀ (fuel t : Nat) (listed : Array Bool), Region.linearise.go md ops fuel t listed [] ∈ ords md ops fuel listed := by
  intro fuel
  induction fuel with
  | zero => intro t listed; simp [Region.linearise.go, ords]
  | succ fuel ih =>
    intro t listed
    simp only [Region.linearise.go]
    change (match (Region.ready md ops listed)[t % (Region.ready md ops listed).length]? with
      | some i => Region.linearise.go md ops fuel (t / (Region.ready md ops listed).length) (listed.setIfInBounds i true) [i]
      | none => [].reverse) ∈ _
    cases hi : (Region.ready md ops listed)[t % (Region.ready md ops listed).length]? with
    | none =>
      have hnil : Region.ready md ops listed = [] := by
        cases hr : Region.ready md ops listed with
        | nil => rfl
        | cons x xs =>
          rw [hr] at hi
          have hlt : t % (x :: xs).length < (x :: xs).length := Nat.mod_lt _ (by simp)
          simp at hi
          simp at hlt
          omega
      simp [ords, hnil]
    | some i =>
      simp only []
      rw [linearise_go_acc, List.reverse_singleton, List.singleton_append]
      have hm : i ∈ Region.ready md ops listed := List.mem_of_getElem? hi
      unfold ords
      split
      · rename_i h0; rw [h0] at hm; cases hm
      · exact List.mem_flatMap.2 ⟨i, hm, List.mem_map.2 ⟨_, ih _ _, rfl⟩⟩
theorem mw_orders [Floor] {P : Program} {R : Exit → Act → World → Prop} {a : Act} {v : World} {id : Nat} {ops : Array Oper} (hm : P.follows .mixedOrders = true) (H : ∀ l ∈ ords .any ops ops.size (Array.replicate ops.size false), MO P ops l R a v) : MW P (.region id ops true) R a v :=
  mw_region_draw fun t => H _ (by
    simp only [Region.schedule, hm, Bool.true_or, if_true]
    exact go_mem _ _ _ _ _)
/-- A region's operations, split. -/
theorem mo_split [Floor] {Q P : Program} {R : Exit → Act → World → Prop} {a : Act} {v : World} (hT : Tamed Q P) {ops : Array Oper} (n : Nat) (l : List Nat) (ha : a.defers = []) (hops : ops.all (okOp P) = true) (hl : (l.take n).all (fun i => decide (i < ops.size)) = true) (H : ∀ T, wpList Q ops (fun e a' v' => e = .normal ∧ MO P ops (l.drop n) R a' v') ((l.take n).filterMap fun i => ops[i]?) a (World.re v 0 T)) : MO P ops l R a v := by
  have := mo_list hT (l.take n) (l.drop n) ha hops hl H
  rwa [List.take_append_drop] at this

theorem place_own {b : Book} (h : bookOk b = true) {p : Nat} (hp : p < b.batches.length) : place (namesOf b.batches) (b.at p).name = p := by
  have hm : (b.at p).name ∈ namesOf b.batches := by
    have hn := nth_namesOf hp
    have hlt : p < (namesOf b.batches).length := by rw [namesOf_length]; exact hp
    have : nth (namesOf b.batches) p ∈ namesOf b.batches := by rw [nth_get hlt]; exact List.getElem_mem hlt
    rw [hn] at this
    exact this
  have h1 : place (namesOf b.batches) (b.at p).name < b.batches.length := by have := place_lt.2 hm; rwa [namesOf_length] at this
  have h2 := place_nth hm
  rw [nth_namesOf h1] at h2
  exact name_inj h h1 hp h2

/-- canGo as a look. -/
theorem look_canGo {b : Book} {v : World} {base g bg : Nat} {vh vn : Value} (hok : bookOk b = true) (hst : GoingAt v base g bg vh vn (hasBits b) (needsBits b) (List.replicate b.batches.length false) (freeN b (fun _ => false))) :
    LookW v b.batches.length 25 #[.pointer (some ⟨g, 0, none⟩)] #[] (fun i => canB b i []) := by
  intro S B0 bs i hi hS hkn
  have h8 := ok_things hok
  have hl1 : (hasBits b).length = b.batches.length := by simp [hasBits]
  have hl2 : (needsBits b).length = b.batches.length := by simp [needsBits]
  obtain ⟨b1, k1, rfl, _, q1⟩ := own_bits hst.hrow (i := i) (by omega)
  obtain ⟨b2, k2, rfl, _, q2⟩ := own_bits hst.nrow (i := i) (by omega)
  have c0 := hst.cells.cell (i := 0) (by omega)
  have c1 := hst.cells.cell (i := 1) (by omega)
  have c2 := hst.cells.cell (i := 2) (by omega)
  have c3 := hst.cells.cell (i := 3) (by omega)
  simp only [goingCells] at c0 c1 c2 c3
  have r := hst.row.cell (i := i) (by simpa using hi)
  have hgn : gnth (List.replicate b.batches.length false) i = false := by simp [gnth, List.getD_eq_getElem?_getD, hi]
  rw [hgn] at r
  have hf := freeN_small b (fun _ => false) h8
  have hh : bnth (hasBits b) i < 1024 := by rw [bnth_has hi]; exact bitsN_small _ _ h8
  have hd : bnth (needsBits b) i < 1024 := by rw [bnth_needs hi]; exact bitsN_small _ _ h8
  have hw : IntKind.u64.wrap ((freeN b (fun _ => false) : Int) + (bnth (hasBits b) i : Int)) = (freeN b (fun _ => false) : Int) + (bnth (hasBits b) i : Int) := wrapU (by omega) (by omega)
  have hval : (!false && (bits .andNot .u64 (bnth (needsBits b) i : Int) ((freeN b (fun _ => false) : Int) + (bnth (hasBits b) i : Int)) == 0)) = canB b i [] := by
    have hs := go_step hok (gone := []) (place_own hok hi) hi (List.replicate b.batches.length false) (by rw [hgn]; simp [outOf, hasB])
    have ho : outOf b [] = fun _ => false := by funext j; simp [outOf, hasB]
    rw [hgn, ho] at hs
    rw [bsub_eq hd hf hh]
    rw [hs]
    simp [hasB]
  obtain ⟨nf, hnf⟩ := canGo_c (S := S) (bs := bs) (w0 := v) hS (hkn _ _ _ c0) (hkn _ _ _ r) (hkn _ _ _ q1) (hkn _ _ _ q2) c0 c1 c2 c3 r q1 q2 (by omega) (by omega) (by simpa using hi) hw
  rw [hval] at hnf
  exact ⟨nf, fun w hw => by
    have := hnf w (fun b k x _ h => hw b k x h)
    simpa using this⟩

def MidMv (b : Book) (a1 a2 : Option Addr) (c1 c2 : Nat) (v : World) (a' : Act) (v' : World) : Prop :=
  ∃ r t3 t4 t5 t6 t7 t8 t9 t10 t11, a' = ⟨#[.agg #[.slice a1 b.things.length c1, .slice a2 b.batches.length c2], .pointer (some ⟨v.heap.size, 0, none⟩), r, t3, t4, t5, t6, t7, t8, t9, t10, t11], []⟩ ∧ Grew v v' ∧ OwnL v' v.heap.size r (movesL b)

set_option maxHeartbeats 1000000 in
set_option maxRecDepth 100000 in
theorem moves_m [Floor] (b : Book) (a1 a2 : Option Addr) (c1 c2 : Nat) (v : World) (hb : BookAt v a1 a2 b) (hfl : Floor.low ≤ v.heap.size) :
    CallsM Try.prog 8 #[.agg #[.slice a1 b.things.length c1, .slice a2 b.batches.length c2]] v (fun r v' => Grew v v' ∧ OwnL v' v.heap.size r (movesL b)) := by
  refine callsM_of Try.func8 (by kernel_rfl) rfl ?_
  simp only [Try.ntmps8, List.size_toArray, List.length_cons, List.length_nil, Nat.reduceAdd, Nat.reduceSub, Array.replicate_succ, Array.replicate_zero, List.push_toArray, List.append_toArray, List.nil_append, List.cons_append]
  refine mw_seq_wp tamed rfl (by kernel_rfl) (by kernel_rfl) (fun why h => by cases h) (fun T => ?_)
  go_wp2
  refine mw_seq_wp tamed rfl (by kernel_rfl) (by kernel_rfl) (fun why h => by cases h) (fun T2 => ?_)
  have e0 : (World.re v 0 T).heap.size = v.heap.size := rfl
  rw [e0]
  generalize hw : World.re ((World.re v 0 T).alloc (.cells #[.slice a1 b.things.length c1, .slice a2 b.batches.length c2] 30)) 0 T2 = w1
  have hG1 : Grew (v.alloc (.cells #[.slice a1 b.things.length c1, .slice a2 b.batches.length c2] 30)) w1 := by
    subst hw
    exact ⟨Nat.le_refl _, fun _ _ => rfl, rfl, rfl⟩
  clear hw e0 T T2
  have hG0 : Grew v (v.alloc (.cells #[.slice a1 b.things.length c1, .slice a2 b.batches.length c2] 30)) := Grew.of (ext_alloc _ _)
  have hx0 := box_cell (w := World.re v v.drawn w1.tape) hG1.ext (i := 0) rfl
  have hx1 := box_cell (w := World.re v v.drawn w1.tape) hG1.ext (i := 1) rfl
  have e0 : (World.re v v.drawn w1.tape).heap.size = v.heap.size := rfl
  rw [e0] at hx0 hx1
  clear e0
  have hb1 := (hG0.tr hG1).book hb
  go_wp2_with fail
  refine (implBookOk_any b _ _ _ _ _ hb1).mono ?_
  rintro e w2 ⟨rfl, hext2⟩
  have HG2 := hid ((hG0.tr hG1).tr (Grew.of hext2))
  have HGB := hid (hG1.tr (Grew.of hext2))
  replace hx0 := hext2.keep hx0
  replace hx1 := hext2.keep hx1
  replace hb1 := hb1.ext hext2
  clear hext2 hG1 hG0
  cases hok : bookOk b
  · go_wp2_with fail
    exact ⟨rfl, _, resultsC_tmp (t := 2) rfl _, HG2.out, by
      have : movesL b = [] := by simp [movesL, hok]
      rw [this]; exact World.ownsRow_nil _ _ _ _⟩
  · go_wp2_with fail
    have h5 : b.batches.length ≤ 5 := by
      have h := hok
      unfold bookOk at h
      simp only [Bool.and_eq_true, decide_eq_true_eq] at h
      exact h.1.2
    have HML : Hid (movesL b = pickL (fun i => canB b i []) b.batches b.batches.length) := by show _ = _; simp [movesL, hok]
    refine mw_mid (MidMv b a1 a2 c1 c2 v) (by kernel_rfl) (fun why h => by cases h) (mw_orders (by kernel_rfl) fun l hl => ?_) ?_
    · have ho : l ∈ ([[0, 1, 2, 3, 4, 5, 6], [0, 2, 1, 3, 4, 5, 6], [0, 2, 3, 1, 4, 5, 6], [0, 2, 3, 4, 1, 5, 6], [2, 0, 1, 3, 4, 5, 6], [2, 0, 3, 1, 4, 5, 6], [2, 0, 3, 4, 1, 5, 6], [2, 3, 0, 1, 4, 5, 6], [2, 3, 0, 4, 1, 5, 6], [2, 3, 4, 0, 1, 5, 6]] : List (List Nat)) := by
        have e : ∀ A B : List (List Nat), A = B → l ∈ A → l ∈ B := fun A B h => h ▸ id
        exact e _ _ (by kernel_rfl) hl
      clear hl
      simp only [List.mem_cons, List.not_mem_nil, or_false] at ho
      have h8 := ok_things hok
      rcases ho with rfl | rfl | rfl | rfl | rfl | rfl | rfl | rfl | rfl | rfl
      all_goals
        refine mo_split tamed 5 _ rfl (by kernel_rfl) (by kernel_rfl) (fun T3 => ?_)
        simp only [List.take, List.drop, List.filterMap, List.getElem?_toArray, List.getElem?_cons_zero, List.getElem?_cons_succ]
        generalize hw : World.re w2 0 T3 = w3
        have hG3 : Grew v w3 := by subst hw; exact HG2.out.tr (Grew.re _ _ _)
        have hx03 : w3.cell? ⟨v.heap.size, 0, none⟩ = some (.slice a1 b.things.length c1) := by subst hw; exact hx0
        have hx13 : w3.cell? ⟨v.heap.size, 1, none⟩ = some (.slice a2 b.batches.length c2) := by subst hw; exact hx1
        have hb3 : BookAt w3 a1 a2 b := by subst hw; exact hb1
        clear hw T3
        go_wp2_with (go_at_call 24; refine (startGoing_any b _ _ _ _ _ hb3 hok h8 h5).mono ?_; rintro e w4 ⟨base, g, bg, vh, vn, rfl, hext4, _, _, hgo⟩; (try replace hx03 := hext4.keep hx03); (try replace hx13 := hext4.keep hx13))
        refine mo_call (by kernel_rfl) rfl rfl rfl rfl (by simp [Act.eval]) (namesWhere_m b.batches a2 c2 w4 (hb3.ext hext4).2 (by omega) (Nat.le_trans hfl (hG3.tr (Grew.of hext4)).size) (look_canGo hok hgo)) (fun r v5 hr => ?_)
        obtain ⟨hG5, ho5⟩ := hr
        have hG35 := hG3.tr (Grew.of hext4)
        have HO5 : Hid (OwnL v5 v.heap.size r (movesL b)) := by
          show OwnL _ _ _ _
          rw [HML.out]
          exact ho5.lo hG35.size
        have HG5 := hid (hG35.tr hG5)
        clear ho5 hG5 hG35 hext4 hgo hx03 hx13 hb3 hG3
        walk_nrm
        refine mo_split tamed 1 _ rfl (by kernel_rfl) (by kernel_rfl) (fun T4 => ?_)
        simp only [List.take, List.drop, List.filterMap, List.getElem?_toArray, List.getElem?_cons_zero, List.getElem?_cons_succ]
        go_wp2
        exact mo_nil ⟨rfl, r, _, _, _, _, _, _, _, _, _, rfl, HG5.out.tr (Grew.re _ _ _), HO5.out⟩
    · rintro a' v' ⟨r, t3, t4, t5, t6, t7, t8, t9, t10, t11, rfl, hg, ho⟩
      refine mw_wp tamed rfl (by kernel_rfl) (fun T3 => ?_)
      go_wp2
      exact ⟨rfl, _, resultsC_tmp (t := 2) rfl _, hg.tr (Grew.re _ _ _), ho⟩
end Go.Proofs.Ytdafpnpfcmgfcab
