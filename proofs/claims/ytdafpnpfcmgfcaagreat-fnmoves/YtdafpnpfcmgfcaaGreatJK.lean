/- namesWhere and ShareMoves, beside those that are only leaving. ShareMoves, beside those that are only leaving. A stretch of lone statements ahead of one that goes; the whole run of a function that goes, from its entry to its end. -/
import Derived.Test.YtdafpnpfcmgfcaaGreatJE
import Derived.Test.YtdafpnpfcmgfcaaGreatCrewP
import Derived.Test.YtdafpnpfcmgfcaaGreatKI
import Derived.Test.YtdafpnpfcmgfcaaGreatMv1
import Derived.Test.YtdafpnpfcmgfcaaGreatKJ
import Derived.Test.YtdafpnpfcmgfcaaGreatJI
namespace Go.Proofs.YtdafpnpfcmgfcaaGreat
open Go Go.Conc Go.ConcN Go.RowKit
attribute [local go_sem] S_toList S_size S_get

theorem Grew.rfl' (v : World) : Grew v v := ⟨Nat.le_refl _, fun _ _ => rfl, rfl, rfl⟩
theorem Grew.tr {a b c : World} (h : Grew a b) (k : Grew b c) : Grew a c := ⟨Nat.le_trans h.size k.size, fun x hx => (k.low x (Nat.lt_of_lt_of_le hx h.size)).trans (h.low x hx), k.os.trans h.os, k.output.trans h.output⟩
theorem Grew.re (v : World) (K : Nat) (T : Nat → Question → Nat) : Grew v (World.re v K T) := ⟨Nat.le_refl _, fun _ _ => rfl, rfl, rfl⟩
theorem Grew.of {a b : World} (h : Ext a b) : Grew a b := ⟨h.size, fun x hx => h.block x hx, h.os, h.output⟩
/-- The same tape given, it is growth as the lone contracts know it. -/
theorem Grew.ext {a b : World} (h : Grew a b) : Ext (World.re a a.drawn b.tape) b := ⟨h.os, rfl, h.output, h.size, fun x hx => h.low x hx⟩
theorem Grew.batches {a b : World} (h : Grew a b) {x : Option Addr} {bs : List Batch} (hb : BatchesAt a x bs) : BatchesAt b x bs := BatchesAt.ext (w := World.re a a.drawn b.tape) hb h.ext
theorem Grew.book {a b : World} (h : Grew a b) {x y : Option Addr} {k : Book} (hb : BookAt a x y k) : BookAt b x y k := BookAt.ext (w := World.re a a.drawn b.tape) hb h.ext

/-- placesWhere as a contract. -/
theorem places_m [Floor] {v : World} {cnt : Nat} {yes : Nat → Bool} {lf : FuncId} {first cap : Array Value} (hcnt : cnt ≤ 31) (hfl : Floor.low ≤ v.heap.size) (hlook : LookW v cnt lf first cap yes) :
    CallsM Tryz.prog 41 #[.int .i64 cnt, .func (.func lf) first cap] v (fun r v' => r = .int .u32 ((sumTo cnt (bitW yes) : Nat) : Int) ∧ Grew v v') := by
  refine ⟨_, bodyP, Tryz.func41, by kernel_rfl, rfl, fun b₁ a₁ ops₁ i₁ rest₁ k₁ cs₁ m t _ _ h => ?_⟩
  exact (places_in h hcnt hfl hlook).trans fun m' t' ⟨v', h1, h2⟩ => .refl ⟨_, v', ⟨rfl, h1⟩, h2⟩

/-- Whether the bit of a place is in the sum. -/
theorem sumBit_bit (yes : Nat → Bool) : ∀ n i, i < n → (sumTo n (bitW yes)).testBit i = yes i := by
  intro n
  induction n with
  | zero => intro i hi; omega
  | succ n ih =>
    intro i hi
    have hlt := sumBit_lt yes n
    simp only [sumTo]
    unfold bitW at *
    cases hy : yes n with
    | false =>
      simp only [Bool.false_eq_true, if_false, Nat.add_zero]
      by_cases h : i < n
      · exact ih i h
      · obtain rfl : i = n := by omega
        rw [Nat.testBit_lt_two_pow hlt, hy]
    | true =>
      simp only [if_true]
      rw [Nat.add_comm]
      by_cases h : i < n
      · rw [Nat.testBit_two_pow_add_gt h]
        exact ih i h
      · obtain rfl : i = n := by omega
        rw [Nat.testBit_two_pow_add_eq, Nat.testBit_lt_two_pow hlt, hy]
        rfl

theorem and32 (z : Nat) (hz : z < 4294967296) : bits .and .u32 (z : Int) 1 = ((z % 2 : Nat) : Int) := by
  have h1 : (BitVec.ofInt 32 (z : Int)).toNat = z := by
    rw [BitVec.ofInt_natCast, BitVec.toNat_ofNat]; exact Nat.mod_eq_of_lt (by omega)
  have h2 : (BitVec.ofInt 32 (1 : Int)).toNat = 1 := by decide
  show IntKind.u32.wrap ((BitVec.ofInt 32 (z : Int) &&& BitVec.ofInt 32 (1 : Int)).toNat : Int) = _
  rw [BitVec.toNat_and, h1, h2, Nat.and_one_is_mod, IntKind.wrap_u32]
  omega
theorem bit_seen {yes : Nat → Bool} {n k N : Nat} (hn : n ≤ 31) (hk : k < n) (hN : sumTo n (bitW yes) = N) : (bits .and .u32 ((N : Int) / 2 ^ k) 1 == 1) = yes k := by
  have hlt : N < 4294967296 := by
    have h2 := sumBit_lt yes n
    have h3 : 2 ^ n ≤ 2 ^ 31 := Nat.pow_le_pow_right (by omega) hn
    omega
  have e : ((N : Int) / 2 ^ k) = ((N / 2 ^ k : Nat) : Int) := by simp
  rw [e, and32 _ (Nat.lt_of_le_of_lt (Nat.div_le_self _ _) hlt), ← sumBit_bit yes n k hk, hN]
  have hb : N.testBit k = decide (N / 2 ^ k % 2 = 1) := by rw [Nat.testBit_eq_decide_div_mod_eq]
  rw [hb]
  generalize N / 2 ^ k % 2 = r
  by_cases h : r = 1
  · subst h; rfl
  · rw [decide_eq_false h]
    simp
    omega

set_option maxHeartbeats 1000000 in
set_option maxRecDepth 100000 in
theorem namesWhere_m [Floor] (bs : List Batch) (a : Option Addr) (ca : Nat) (v : World) (hbs : BatchesAt v a bs) (h31 : bs.length ≤ 31) (hfl : Floor.low ≤ v.heap.size) {lf : FuncId} {first cap : Array Value} {yes : Nat → Bool} (hlook : LookW v bs.length lf first cap yes) :
    CallsM Tryz.prog 19 #[.slice a bs.length ca, .func (.func lf) first cap] v (fun r v' => Grew v v' ∧ OwnL v' v.heap.size r (pickL yes bs bs.length)) := by
  refine callsM_of Tryz.func19 (by kernel_rfl) rfl ?_
  simp only [Tryz.ntmps19, List.size_toArray, List.length_cons, List.length_nil, Nat.reduceAdd, Nat.reduceSub, Array.replicate_succ, Array.replicate_zero, List.push_toArray, List.append_toArray, List.nil_append, List.cons_append]
  refine mw_seq_wp tamed rfl (by kernel_rfl) (by kernel_rfl) (fun why h => by cases h) (fun T => ?_)
  go_wp2
  generalize hv1 : World.re v 0 T = v1
  have hG : Grew v v1 := by subst hv1; exact Grew.re v 0 T
  have hsz : v1.heap.size = v.heap.size := by subst hv1; rfl
  have hl1 : LookW v1 bs.length lf first cap yes := by subst hv1; exact hlook
  clear hv1
  refine mw_mid (fun a' v' => a' = ⟨#[.slice a bs.length ca, .func (.func lf) first cap, undef, undef, .slice none 0 0, .int .u32 ((sumTo bs.length (bitW yes) : Nat) : Int), undef, undef, undef, .slice a bs.length ca, .int .i64 bs.length, .func (.func lf) first cap, .int .u32 ((sumTo bs.length (bitW yes) : Nat) : Int), undef, undef, undef, undef, undef, undef, undef, undef, undef, undef, undef, undef, undef, undef, undef, undef, undef, undef, undef], []⟩ ∧ Grew v v') (by kernel_rfl) (fun why h => by cases h) (mw_region ?_) ?_
  · refine mo_list tamed [0, 1, 2] [3, 4] rfl (by kernel_rfl) (by kernel_rfl) (fun T2 => ?_)
    simp only [List.filterMap, List.getElem?_toArray, List.getElem?_cons_zero, List.getElem?_cons_succ]
    go_wp2
    refine mo_call (by kernel_rfl) rfl rfl rfl rfl (by simp [Act.eval]) ((places_m h31 (by rw [hsz]; exact hfl) hl1).re 0 T2) (fun r v2 hr => ?_)
    obtain ⟨rfl, hG2⟩ := hr
    walk_nrm
    refine mo_list tamed [4] [] rfl (by kernel_rfl) (by kernel_rfl) (fun T3 => ?_)
    simp only [List.filterMap, List.getElem?_toArray, List.getElem?_cons_zero, List.getElem?_cons_succ]
    go_wp2
    exact mo_nil ⟨rfl, rfl, hG.tr (hG2.tr (Grew.re _ _ _))⟩
  · rintro a' v2 ⟨rfl, hG2⟩
    have hbs2 := hG2.batches hbs
    clear hl1 hG hsz
    refine mw_wp tamed rfl (by kernel_rfl) (fun T2 => ?_)
    generalize hw : World.re v2 0 T2 = w
    replace hbs2 : BatchesAt w a bs := by subst hw; exact hbs2
    have HG : Hid (Grew v w) := by subst hw; exact hG2.tr (Grew.re _ _ _)
    clear hG2 hw
    go_wp2
    obtain ⟨i0, hi, hz0, hz1, hz2⟩ := info_str
    generalize hN : sumTo bs.length (bitW yes) = N
    have HN := hid hN
    clear hN
    go_loopw [6, 15] (fun o i wr => ∃ (k : Nat), k ≤ bs.length ∧ i = .int .i64 k ∧ Ext w wr ∧ OwnL wr w.heap.size o (pickL yes bs k)) (fun _ i _ => bs.length - (intOf i).toNat)
    case atStart => exact ⟨0, Nat.zero_le _, rfl, Ext.rfl' _, World.ownsRow_nil _ _ _ _⟩
    case round =>
      obtain ⟨k, hk, rfl, hext, hown⟩ := hrel
      have HE := hid hext
      have HO := hid hown
      have hb' := hbs2.ext hext
      have hle := pickL_len yes bs k
      clear hext hown
      by_cases hlt : k < bs.length
      · obtain ⟨ba, oa, rfl, hl, d1, g1, d2, g2, p0, p1, p2, s1, s2⟩ := hb'.2 k hlt
        have hbt := bit_seen h31 hlt HN.out
        have hzr := HE.out.size
        cases hy : yes k
        · rw [hy] at hbt
          have HP : Hid (pickL yes bs (k + 1) = pickL yes bs k) := pickL_no hy
          go_wp2
          go_roundw
          case rel => exact ⟨k + 1, by omega, by go_num, Ext.tr HE.out (ext_alloc _ _), by rw [HP.out]; exact HO.out.kp (ext_alloc _ _)⟩
          case measure => simp [intOf]; omega
        · rw [hy] at hbt
          have HP : Hid (pickL yes bs (k + 1) = pickL yes bs k ++ [(nthB bs k).name]) := pickL_yes hy
          have HO1 := hid (HO.out.kp (ext_alloc wr (.cells #[.string (S (nthB bs k).name), .slice d1 (nthB bs k).has.length g1, .slice d2 (nthB bs k).needs.length g2] 32)))
          generalize hPL : pickL yes bs k = L at *
          have HPL := hid hPL
          clear hPL
          go_wp2_with (at_builtin; refine wpList_append_own _ rfl _ _ 23 rfl w.heap.size 9 i0 (.string (S [])) 1 16 (uQ Tryz.underlying23) hi hz0 hz1 hz2 rfl (by decide) _ _ _ rfl (World.ownsRow.alloc HO1.out _) ⟨wr.heap.size + 1, 0, none⟩ 1 1 [.string (S (nthB bs k).name)] rfl rfl ?q1 ?q2 ?q3 ?q4 ?q5 ?_)
          case q1 =>
            intro j u hj
            match j, hj with
            | 0, hj => simp at hj; subst hj; simp [Addr.add]
          case q2 => intro u hu; simp at hu; subst hu; rfl
          case q3 => unfold maxLen; omega
          case q4 => omega
          case q5 => simp; omega
          · intro v' w3 hown' hgrow _
            have HN' : Hid (OwnL w3 w.heap.size v' (L ++ [(nthB bs k).name])) := OwnL.step hown'
            have HE' : Hid (Ext w w3) := ((HE.out.alloc hzr _).alloc (by simp; omega) _).grown hgrow (by simp; omega) (fun g hg => (HO1.out.lt g hg).1)
            clear hown' hgrow
            go_wp2
            go_roundw
            case rel => exact ⟨k + 1, by omega, by go_num, HE'.out, by rw [HP.out]; exact HN'.out⟩
            case measure => simp [intOf]; omega
      · have e : k = bs.length := by omega
        subst e
        go_wp2
        exact ⟨rfl, _, resultsC_tmp (t := 4) rfl _, HG.out.tr (Grew.of HE.out), HO.out.lo HG.out.size⟩
end Go.Proofs.YtdafpnpfcmgfcaaGreat
namespace Go.Proofs.YtdafpnpfcmgfcaaGreat
open Go Go.Conc Go.ConcN Go.RowKit
attribute [local go_sem] S_toList S_size S_get

/-- All orders that the tape can pick. -/
def ords (md : Region.Mode) (ops : Array Oper) : Nat → Array Bool → List (List Nat)
  | 0, _ => [[]]
  | fuel + 1, listed => match Region.ready md ops listed with
    | [] => [[]]
    | rs => rs.flatMap fun i => (ords md ops fuel (listed.setIfInBounds i true)).map (i :: ·)
theorem go_mem (md : Region.Mode) (ops : Array Oper) : ∀ (fuel t : Nat) (listed : Array Bool), Region.linearise.go md ops fuel t listed [] ∈ ords md ops fuel listed := by
  intro fuel
  induction fuel with
  | zero => intro t listed; simp [Region.linearise.go, ords]
  | succ fuel ih =>
    intro t listed
    simp only [Region.linearise.go]
    change (match (Region.ready md ops listed)[t % (Region.ready md ops listed).length]? with
      | some i => Region.linearise.go md ops fuel (t / (Region.ready md ops listed).length) (listed.setIfInBounds i true) [i]
      | none => [].reverse) ∈ _
    cases hi : (Region.ready md ops listed)[t % (Region.ready md ops listed).length]? with
    | none =>
      have hnil : Region.ready md ops listed = [] := by
        cases hr : Region.ready md ops listed with
        | nil => rfl
        | cons x xs =>
          rw [hr] at hi
          have hlt : t % (x :: xs).length < (x :: xs).length := Nat.mod_lt _ (by simp)
          simp at hi
          simp at hlt
          omega
      simp [ords, hnil]
    | some i =>
      simp only []
      rw [linearise_go_acc, List.reverse_singleton, List.singleton_append]
      have hm : i ∈ Region.ready md ops listed := List.mem_of_getElem? hi
      unfold ords
      split
      · rename_i h0; rw [h0] at hm; cases hm
      · exact List.mem_flatMap.2 ⟨i, hm, List.mem_map.2 ⟨_, ih _ _, rfl⟩⟩
theorem mw_orders [Floor] {P : Program} {R : Exit → Act → World → Prop} {a : Act} {v : World} {id : Nat} {ops : Array Oper} (hm : P.follows .mixedOrders = true) (H : ∀ l ∈ ords .any ops ops.size (Array.replicate ops.size false), MO P ops l R a v) : MW P (.region id ops true) R a v :=
  mw_region_draw fun t => H _ (by
    simp only [Region.schedule, hm, Bool.true_or, if_true]
    exact go_mem _ _ _ _ _)
/-- A region's operations, split. -/
theorem mo_split [Floor] {Q P : Program} {R : Exit → Act → World → Prop} {a : Act} {v : World} (hT : Tamed Q P) {ops : Array Oper} (n : Nat) (l : List Nat) (ha : a.defers = []) (hops : ops.all (okOp P) = true) (hl : (l.take n).all (fun i => decide (i < ops.size)) = true) (H : ∀ T, wpList Q ops (fun e a' v' => e = .normal ∧ MO P ops (l.drop n) R a' v') ((l.take n).filterMap fun i => ops[i]?) a (World.re v 0 T)) : MO P ops l R a v := by
  have := mo_list hT (l.take n) (l.drop n) ha hops hl H
  rwa [List.take_append_drop] at this

theorem place_own {b : Book} (h : bookOk b = true) {p : Nat} (hp : p < b.batches.length) : place (namesOf b.batches) (b.at p).name = p := by
  have hm : (b.at p).name ∈ namesOf b.batches := by
    have hn := nth_namesOf hp
    have hlt : p < (namesOf b.batches).length := by rw [namesOf_length]; exact hp
    have : nth (namesOf b.batches) p ∈ namesOf b.batches := by rw [nth_get hlt]; exact List.getElem_mem hlt
    rw [hn] at this
    exact this
  have h1 : place (namesOf b.batches) (b.at p).name < b.batches.length := by have := place_lt.2 hm; rwa [namesOf_length] at this
  have h2 := place_nth hm
  rw [nth_namesOf h1] at h2
  exact name_inj h h1 hp h2

/-- canGo as a look. -/
theorem look_canGo {b : Book} {v : World} {base g bg : Nat} {vh vn : Value} (hok : bookOk b = true) (hst : GoingAt v base g bg vh vn (hasBits b) (needsBits b) (List.replicate b.batches.length false) (freeN b (fun _ => false))) :
    LookW v b.batches.length 21 #[.pointer (some ⟨g, 0, none⟩)] #[] (fun i => canB b i []) := by
  intro S B0 bs i hi hS hkn
  have h8 := ok_things hok
  have hl1 : (hasBits b).length = b.batches.length := by simp [hasBits]
  have hl2 : (needsBits b).length = b.batches.length := by simp [needsBits]
  obtain ⟨b1, k1, rfl, _, q1⟩ := own_bits hst.hrow (i := i) (by omega)
  obtain ⟨b2, k2, rfl, _, q2⟩ := own_bits hst.nrow (i := i) (by omega)
  have c0 := hst.cells.cell (i := 0) (by omega)
  have c1 := hst.cells.cell (i := 1) (by omega)
  have c2 := hst.cells.cell (i := 2) (by omega)
  have c3 := hst.cells.cell (i := 3) (by omega)
  simp only [goingCells] at c0 c1 c2 c3
  have r := hst.row.cell (i := i) (by simpa using hi)
  have hgn : gnth (List.replicate b.batches.length false) i = false := by simp [gnth, List.getD_eq_getElem?_getD, hi]
  rw [hgn] at r
  have hf := freeN_small b (fun _ => false) h8
  have hh : bnth (hasBits b) i < 1024 := by rw [bnth_has hi]; exact bitsN_small _ _ h8
  have hd : bnth (needsBits b) i < 1024 := by rw [bnth_needs hi]; exact bitsN_small _ _ h8
  have hw : IntKind.u64.wrap ((freeN b (fun _ => false) : Int) + (bnth (hasBits b) i : Int)) = (freeN b (fun _ => false) : Int) + (bnth (hasBits b) i : Int) := wrapU (by omega) (by omega)
  have hval : (!false && (bits .andNot .u64 (bnth (needsBits b) i : Int) ((freeN b (fun _ => false) : Int) + (bnth (hasBits b) i : Int)) == 0)) = canB b i [] := by
    have hs := go_step hok (gone := []) (place_own hok hi) hi (List.replicate b.batches.length false) (by rw [hgn]; simp [outOf, hasB])
    have ho : outOf b [] = fun _ => false := by funext j; simp [outOf, hasB]
    rw [hgn, ho] at hs
    rw [bsub_eq hd hf hh]
    rw [hs]
    simp [hasB]
  obtain ⟨nf, hnf⟩ := canGo_c (S := S) (bs := bs) (w0 := v) hS (hkn _ _ _ c0) (hkn _ _ _ r) (hkn _ _ _ q1) (hkn _ _ _ q2) c0 c1 c2 c3 r q1 q2 (by omega) (by omega) (by simpa using hi) hw
  rw [hval] at hnf
  exact ⟨nf, fun w hw => by
    have := hnf w (fun b k x _ h => hw b k x h)
    simpa using this⟩

def MidMv (b : Book) (a1 a2 : Option Addr) (c1 c2 : Nat) (v : World) (a' : Act) (v' : World) : Prop :=
  ∃ r t3 t4 t5 t6 t7 t8 t9 t10 t11, a' = ⟨#[.agg #[.slice a1 b.things.length c1, .slice a2 b.batches.length c2], .pointer (some ⟨v.heap.size, 0, none⟩), r, t3, t4, t5, t6, t7, t8, t9, t10, t11], []⟩ ∧ Grew v v' ∧ OwnL v' v.heap.size r (movesL b)

set_option maxHeartbeats 1000000 in
set_option maxRecDepth 100000 in
theorem moves_m [Floor] (b : Book) (a1 a2 : Option Addr) (c1 c2 : Nat) (v : World) (hb : BookAt v a1 a2 b) (hfl : Floor.low ≤ v.heap.size) :
    CallsM Tryz.prog 5 #[.agg #[.slice a1 b.things.length c1, .slice a2 b.batches.length c2]] v (fun r v' => Grew v v' ∧ OwnL v' v.heap.size r (movesL b)) := by
  refine callsM_of Tryz.func5 (by kernel_rfl) rfl ?_
  simp only [Tryz.ntmps5, List.size_toArray, List.length_cons, List.length_nil, Nat.reduceAdd, Nat.reduceSub, Array.replicate_succ, Array.replicate_zero, List.push_toArray, List.append_toArray, List.nil_append, List.cons_append]
  refine mw_seq_wp tamed rfl (by kernel_rfl) (by kernel_rfl) (fun why h => by cases h) (fun T => ?_)
  go_wp2
  refine mw_seq_wp tamed rfl (by kernel_rfl) (by kernel_rfl) (fun why h => by cases h) (fun T2 => ?_)
  have e0 : (World.re v 0 T).heap.size = v.heap.size := rfl
  rw [e0]
  generalize hw : World.re ((World.re v 0 T).alloc (.cells #[.slice a1 b.things.length c1, .slice a2 b.batches.length c2] 26)) 0 T2 = w1
  have hG1 : Grew (v.alloc (.cells #[.slice a1 b.things.length c1, .slice a2 b.batches.length c2] 26)) w1 := by
    subst hw
    exact ⟨Nat.le_refl _, fun _ _ => rfl, rfl, rfl⟩
  clear hw e0 T T2
  have hG0 : Grew v (v.alloc (.cells #[.slice a1 b.things.length c1, .slice a2 b.batches.length c2] 26)) := Grew.of (ext_alloc _ _)
  have hx0 := box_cell (w := World.re v v.drawn w1.tape) hG1.ext (i := 0) rfl
  have hx1 := box_cell (w := World.re v v.drawn w1.tape) hG1.ext (i := 1) rfl
  have e0 : (World.re v v.drawn w1.tape).heap.size = v.heap.size := rfl
  rw [e0] at hx0 hx1
  clear e0
  have hb1 := (hG0.tr hG1).book hb
  go_wp2_with fail
  refine (implBookOk_any b _ _ _ _ _ hb1).mono ?_
  rintro e w2 ⟨rfl, hext2⟩
  have HG2 := hid ((hG0.tr hG1).tr (Grew.of hext2))
  have HGB := hid (hG1.tr (Grew.of hext2))
  replace hx0 := hext2.keep hx0
  replace hx1 := hext2.keep hx1
  replace hb1 := hb1.ext hext2
  clear hext2 hG1 hG0
  cases hok : bookOk b
  · go_wp2_with fail
    exact ⟨rfl, _, resultsC_tmp (t := 2) rfl _, HG2.out, by
      have : movesL b = [] := by simp [movesL, hok]
      rw [this]; exact World.ownsRow_nil _ _ _ _⟩
  · go_wp2_with fail
    have h5 : b.batches.length ≤ 5 := by
      have h := hok
      unfold bookOk at h
      simp only [Bool.and_eq_true, decide_eq_true_eq] at h
      exact h.1.2
    have HML : Hid (movesL b = pickL (fun i => canB b i []) b.batches b.batches.length) := by show _ = _; simp [movesL, hok]
    refine mw_mid (MidMv b a1 a2 c1 c2 v) (by kernel_rfl) (fun why h => by cases h) (mw_orders (by kernel_rfl) fun l hl => ?_) ?_
    · have ho : l ∈ ([[0, 1, 2, 3, 4, 5, 6], [0, 2, 1, 3, 4, 5, 6], [0, 2, 3, 1, 4, 5, 6], [0, 2, 3, 4, 1, 5, 6], [2, 0, 1, 3, 4, 5, 6], [2, 0, 3, 1, 4, 5, 6], [2, 0, 3, 4, 1, 5, 6], [2, 3, 0, 1, 4, 5, 6], [2, 3, 0, 4, 1, 5, 6], [2, 3, 4, 0, 1, 5, 6]] : List (List Nat)) := by
        have e : ∀ A B : List (List Nat), A = B → l ∈ A → l ∈ B := fun A B h => h ▸ id
        exact e _ _ (by kernel_rfl) hl
      clear hl
      simp only [List.mem_cons, List.not_mem_nil, or_false] at ho
      have h8 := ok_things hok
      rcases ho with rfl | rfl | rfl | rfl | rfl | rfl | rfl | rfl | rfl | rfl
      all_goals
        refine mo_split tamed 5 _ rfl (by kernel_rfl) (by kernel_rfl) (fun T3 => ?_)
        simp only [List.take, List.drop, List.filterMap, List.getElem?_toArray, List.getElem?_cons_zero, List.getElem?_cons_succ]
        generalize hw : World.re w2 0 T3 = w3
        have hG3 : Grew v w3 := by subst hw; exact HG2.out.tr (Grew.re _ _ _)
        have hx03 : w3.cell? ⟨v.heap.size, 0, none⟩ = some (.slice a1 b.things.length c1) := by subst hw; exact hx0
        have hx13 : w3.cell? ⟨v.heap.size, 1, none⟩ = some (.slice a2 b.batches.length c2) := by subst hw; exact hx1
        have hb3 : BookAt w3 a1 a2 b := by subst hw; exact hb1
        clear hw T3
        go_wp2_with (go_at_call 20; refine (startGoing_any b _ _ _ _ _ hb3 hok h8 h5).mono ?_; rintro e w4 ⟨base, g, bg, vh, vn, rfl, hext4, _, _, hgo⟩; (try replace hx03 := hext4.keep hx03); (try replace hx13 := hext4.keep hx13))
        refine mo_call (by kernel_rfl) rfl rfl rfl rfl (by simp [Act.eval]) (namesWhere_m b.batches a2 c2 w4 (hb3.ext hext4).2 (by omega) (Nat.le_trans hfl (hG3.tr (Grew.of hext4)).size) (look_canGo hok hgo)) (fun r v5 hr => ?_)
        obtain ⟨hG5, ho5⟩ := hr
        have hG35 := hG3.tr (Grew.of hext4)
        have HO5 : Hid (OwnL v5 v.heap.size r (movesL b)) := by
          show OwnL _ _ _ _
          rw [HML.out]
          exact ho5.lo hG35.size
        have HG5 := hid (hG35.tr hG5)
        clear ho5 hG5 hG35 hext4 hgo hx03 hx13 hb3 hG3
        walk_nrm
        refine mo_split tamed 1 _ rfl (by kernel_rfl) (by kernel_rfl) (fun T4 => ?_)
        simp only [List.take, List.drop, List.filterMap, List.getElem?_toArray, List.getElem?_cons_zero, List.getElem?_cons_succ]
        go_wp2
        exact mo_nil ⟨rfl, r, _, _, _, _, _, _, _, _, _, rfl, HG5.out.tr (Grew.re _ _ _), HO5.out⟩
    · rintro a' v' ⟨r, t3, t4, t5, t6, t7, t8, t9, t10, t11, rfl, hg, ho⟩
      refine mw_wp tamed rfl (by kernel_rfl) (fun T3 => ?_)
      go_wp2
      exact ⟨rfl, _, resultsC_tmp (t := 2) rfl _, hg.tr (Grew.re _ _ _), ho⟩
end Go.Proofs.YtdafpnpfcmgfcaaGreat
namespace Go.Proofs.YtdafpnpfcmgfcaaGreat
open Go Go.Conc Go.ConcN

section
variable [Floor] {Q P : Program} {R : Exit → Act → World → Prop}
/-- The first n statements are walked alone; from then on the machine goes. -/
def wpF (Q P : Program) (R : Exit → Act → World → Prop) : Nat → Code → Act → World → Prop
  | 0, c, a, w => MW P c R a w
  | n + 1, .seq x y, a, w => x.wp Q (Exit.then (fun a w => wpF Q P R n y a w) R) a w
  | _ + 1, _, _, _ => False
def back : Nat → Code → Code
  | 0, c => c
  | n + 1, .seq _ y => back n y
  | _ + 1, _ => .skip

def willing : Code → Bool
  | .refuse _ => false
  | _ => true
theorem wpF_k {n : Nat} {x y : Code} {a : Act} {w : World} (h : ∀ K : Act → World → Prop, (∀ a w, wpF Q P R n y a w → K a w) → x.wp Q (Exit.then K R) a w) : wpF Q P R (n + 1) (.seq x y) a w := h _ fun _ _ h => h
theorem wpF_0 {c : Code} {a : Act} {w : World} (h : MW P c R a w) : wpF Q P R 0 c a w := h

theorem arr_front : ∀ (n : Nat) (c : Code) (a : Act) (w : World), wpF Q P R n c a w → ∀ (b : Frame) (k : List Item) (cs : List Frame), (∀ e a' v', R e a' v' → Ways k e) →
    ∃ e a' w', Exit.then (fun a w => MW P (back n c) R a w) R e a' w' ∧ Arrives Q (lone (b.at a (.code c :: k)) cs w) b (.code (back n c) :: k) cs e a' w' := by
  intro n
  induction n with
  | zero => exact fun c a w h b k cs _ => ⟨.normal, a, w, h, .refl _ _⟩
  | succ n ih =>
    intro c a w h b k cs hR
    cases c with
    | seq x y =>
      obtain ⟨e, a1, w1, h1, h2⟩ := h b (.code y :: k) cs
      cases e with
      | normal =>
        obtain ⟨e, a2, w2, h3, h4⟩ := ih y a1 w1 h1 b k cs hR
        exact ⟨e, a2, w2, h3, .of_steps (.head step_seq h2) h4⟩
      | exit id => exact ⟨.exit id, a1, w1, h1, .of_steps (.one step_seq) (fun k' hk => h2 k' (by simpa [exitTo] using hk))⟩
      | ret => exact ⟨.ret, a1, w1, h1, .of_steps (.one step_seq) h2⟩
      | goto l => exact (hR _ _ _ h1).elim
      | panic ch => exact (hR _ _ _ h1).elim
      | outgrown => exact (hR _ _ _ h1).elim
    | _ => exact h.elim

theorem mw_front (hT : Tamed Q P) (n : Nat) {c : Code} {a : Act} {v : World} (ha : a.defers = []) (hcd : okCode P c = true) (hn : willing (back n c) = true) (H : ∀ T, wpF Q P R n c a (World.re v 0 T)) : MW P c R a v := by
  intro b k cs m t hb hk hcs hR h
  have hk' : ∀ i ∈ (.code c :: k : List Item), okItem P i = true := fun i hi => by
    rcases List.mem_cons.1 hi with rfl | hi
    · exact hcd
    · exact hk i hi
  refine (h.rb (X := fun S g w => ∃ e a' v', Cp S v' w ∧ Exit.then (fun a w => MW P (back n c) R a w) R e a' v' ∧ Came b (.code (back n c) :: k) cs e a' g) fun S w hc => rb_arrives hT hb ha hk' hcs hc (fun T => arr_front n c a _ (H T) b k (cs ++ [bottom]) hR) (fun e a' v' hr => ?_)).trans fun m2 t2 ⟨S, nn, w, g, hn1, ⟨e, a', v', hcp, h2, h3⟩, h4⟩ => ?_
  · cases e with
    | normal =>
      intro why e
      simp only [List.cons.injEq, Item.code.injEq] at e
      rw [e.1] at hn
      cases hn
    | exit id =>
      obtain ⟨k', h1, h2⟩ := hR _ _ _ hr
      exact ⟨k', by simpa [exitTo] using h1, h2⟩
    | ret => trivial
    | goto l => exact hR _ _ _ hr
    | panic c => exact hR _ _ _ hr
    | outgrown => exact hR _ _ _ hr
  · have h5 : AtM P g v' m2 t2 := ⟨S, nn, w, hn1, hcp, h4⟩
    cases e with
    | normal =>
      obtain rfl : g = _ := h3
      exact h2 b k cs m2 t2 hb hk hcs hR h5
    | exit id => exact .refl ⟨_, a', v', g, h2, came_push (by simp) h3, h5⟩
    | ret => exact .refl ⟨_, a', v', g, h2, h3, h5⟩
    | goto l => exact (hR _ _ _ h2).elim
    | panic c => exact (hR _ _ _ h2).elim
    | outgrown => exact (hR _ _ _ h2).elim
end

/-- What the lone run sees of a world as it is. -/
def veiled (W : World) : World := { W with heap := W.heap.map veil }
/-- No block is shunned yet. -/
def sh0 (W : World) : Sh := ⟨fun _ => False, fun b => W.heap[b]?⟩
theorem cp_veiled (W : World) : Cp (sh0 W) (veiled W) W :=
  ⟨by simp [veiled], fun _ h => h.elim, fun b _ => by simp [veiled], fun _ h => h.elim, rfl, rfl, fun _ _ _ _ => rfl⟩
theorem veiled_size (W : World) : (veiled W).heap.size = W.heap.size := by simp [veiled]
theorem tr_nil (W : World) (B : Nat) : Tr (sh0 W) B 1 #[] := by
  have nt : ∀ i a, touchAt #[] i = some a → False := fun i a h => by simp [touchAt, Trace.act?] at h
  refine ⟨⟨fun i op x h => by simp at h, fun k h1 h2 => by omega, fun k h1 h2 => by omega, fun l _ _ i a h => (nt i a h).elim, fun l _ _ i a h => (nt i a h).elim, fun said => ?_, fun i op h => by simp at h⟩, fun i g h => ?_, rfl, fun op h => by simp at h⟩
  · rintro ⟨i, j, _, ⟨a, b, ha, _⟩, _⟩
    simp [Trace.act?] at ha
  · simp [Trace.g?] at h
theorem stepG_over {P : Program} {b : Frame} {a : Act} {fn : Func} {todo : List Item} {v : Value} {w : World} (hn : b.kind = .normal) (hd : a.defers = []) (hf : P.funcs[b.fn]? = some fn) (hi : P.inits.idxOf? b.fn = none)
    (hr : (results fn a.tmps).run P w = .ok v w) (he : (results fn a.tmps).events P w #[] = #[]) :
    stepG P true (G { b.at a todo with mode := .returning } []) w = .ended (.done v) w #[] := by
  simp [G, stepG, unwind, doReturn, Frame.at, hn, hd, hf, hi, hr, he, seen, GStep.after]

/-- What a function's body must achieve that goes. -/
def BodyM [Floor] (P : Program) (fn : Func) (args : Array Value) (v : World) (Post : Value → World → Prop) : Prop :=
  ∃ c, fn.body = some c ∧ MW P c (bodyM P fn Post) ⟨args ++ Array.replicate (fn.ntmps - args.size) undef, []⟩ v
/-- What is held of the world behind the whole run. -/
def Kept0 (W : World) (Post : Value → Prop) (r : Value) (w' : World) : Prop :=
  Post r ∧ w'.os = W.os ∧ w'.output = W.output ∧ W.heap.size ≤ w'.heap.size ∧ ∀ b, b < W.heap.size → w'.heap[b]? = W.heap[b]?

/-- ████ THE WHOLE RUN. ████ -/
theorem mw_top {P : Program} {f : FuncId} {fn : Func} {args : Array Value} {W : World} {Post : Value → Prop} (hf : P.funcs[f]? = some fn) (hi : P.inits.idxOf? f = none)
    (H : ∀ [Floor], Floor.low = W.heap.size → BodyM P fn args (veiled W) (fun r v' => Post r ∧ (veiled W).heap.size ≤ v'.heap.size ∧ (∀ b, b < (veiled W).heap.size → v'.heap[b]? = (veiled W).heap[b]?) ∧ v'.os = (veiled W).os ∧ v'.output = (veiled W).output)) :
    ∃ M last o w' t', runNT P (M + 1) (solo (G (Frame.enter P f args .normal) []) W) #[] = (.ended o w', t') ∧ runN P M (solo (G (Frame.enter P f args .normal) []) W) = .next last ∧ step P last = .ended o w' ∧ Go.Conc.Good P (Kept0 W Post) last o w' t' := by
  letI : Floor := ⟨W.heap.size, fun b => W.heap[b]?⟩
  obtain ⟨c, hb, H⟩ := H rfl
  have h0 : AtM P (G ((base f).at ⟨args ++ Array.replicate (fn.ntmps - args.size) undef, []⟩ [.code c]) []) (veiled W) (solo (G (Frame.enter P f args .normal) []) W) #[] := by
    refine ⟨sh0 W, 1, W, ⟨Nat.le_refl _, fun b h => h.elim, rfl⟩, cp_veiled W, #[G (Frame.enter P f args .normal) []], none, fun _ => 0, W.drawn, rfl, ?_, rfl, ⟨fun i g hi hg => ?_, fun j _ => rfl⟩, tr_nil W _⟩
    · rw [enter_at _ hf hb]; rfl
    · obtain ⟨j, rfl⟩ : ∃ j, i = j + 1 := ⟨i - 1, by omega⟩
      simp at hg
  obtain ⟨N, m1, t1, hr1, e, a', v', g, h1, h2, h3⟩ := H (base f) [] [] _ _ rfl (by simp) (by simp) (fun e a' v' hr => by
    cases e with
    | normal => exact fun why e => by cases e
    | ret => trivial
    | _ => exact hr.elim) h0
  have fin : ∀ (todo : List Item) (N : Nat) (m1 : Machine) (t1 : Trace), runNT P N (solo (G (Frame.enter P f args .normal) []) W) #[] = (.next m1, t1) → (a'.defers = [] ∧ ∃ r, ResultsC P fn a'.tmps r ∧ Post r ∧ (veiled W).heap.size ≤ v'.heap.size ∧ (∀ b, b < (veiled W).heap.size → v'.heap[b]? = (veiled W).heap[b]?) ∧ v'.os = (veiled W).os ∧ v'.output = (veiled W).output) → AtM P (G { (base f).at a' todo with mode := .returning } []) v' m1 t1 →
      ∃ M last o w' t', runNT P (M + 1) (solo (G (Frame.enter P f args .normal) []) W) #[] = (.ended o w', t') ∧ runN P M (solo (G (Frame.enter P f args .normal) []) W) = .next last ∧ step P last = .ended o w' ∧ Go.Conc.Good P (Kept0 W Post) last o w' t' := by
    rintro todo N m1 t1 hr1 ⟨hd, r, hres, hp, hsz, hlow, hos, hout⟩ ⟨S, n, w, ⟨_, hlo, hstart⟩, hcp, gs, sl, q, d, rfl, hg0, rfl, hL, hT⟩
    have hk : ∀ w₁, Sim S (w.at d) w₁ → Kept0 W Post r w₁ := by
      intro w₁ hs
      have hc1 : Cp S v' w₁ := hs.2 v' ((Sim.at S w d).2 v' hcp)
      refine ⟨hp, ?_, ?_, ?_, fun b hb => ?_⟩
      · rw [← hc1.os, hos]; rfl
      · rw [← hc1.output, hout]; rfl
      · rw [← hc1.size, ← veiled_size W]; exact hsz
      · have hns : ¬ S b := fun x => by have := hlo b x; change W.heap.size ≤ b at this; omega
        have h5 := hlow b (by rw [veiled_size]; exact hb)
        have h6 : (veiled W).heap[b]? = (W.heap[b]?).map veil := by simp [veiled]
        cases h8 : W.heap[b]? with
        | none => rw [Array.getElem?_eq_getElem hb] at h8; cases h8
        | some o =>
          rw [h6, h8, Option.map_some] at h5
          rcases veil_cases o with ⟨h9, h10⟩ | ⟨h9, h10⟩
          · have h7 := hc1.out b hns
            rw [h5, h9] at h7
            obtain ⟨o2, hw2, hv2⟩ := Option.map_eq_some_iff.1 h7.symm
            rw [hw2]
            rcases veil_cases o2 with ⟨h11, _⟩ | ⟨h11, _⟩
            · rw [← hv2, h11]
            · rw [h11] at hv2
              rw [← hv2, isX_odd (stand_isX o2)] at h10
              cases h10
          · rw [hc1.mark b _ (h9 ▸ stand_isX o) h5, hstart]
            exact h8
    obtain ⟨M, last, o, w', t', e1, e2, e3, e4⟩ := co_end (Post := Kept0 W Post) (sl := sl) (w := w.at d) hg0 hL hT (fun w₁ hs => ⟨rfl, r, #[], stepG_over rfl hd hf hi (hres w₁).1 (hres w₁).2, by simp, hk w₁ hs⟩)
    refine ⟨N + M, last, o, w', t', ?_, ?_, e3, e4⟩
    · rw [Nat.add_assoc, runNT_more N (M + 1) _ _ _ _ hr1]; exact e1
    · rw [← runNT_fst P _ _ #[], runNT_more N M _ _ _ _ hr1, runNT_fst]; exact e2
  cases e with
  | normal =>
    obtain rfl : g = _ := h2
    obtain ⟨N2, m2, t2, hr2, h4⟩ := h3.step rfl (fun w => stepG_end)
    exact fin [] (N + N2) m2 t2 (by rw [runNT_more N N2 _ _ _ _ hr1]; exact hr2) h1 h4
  | ret =>
    obtain ⟨todo, rfl⟩ := h2
    exact fin todo N m1 t1 hr1 h1 h3
  | _ => exact h1.elim
end Go.Proofs.YtdafpnpfcmgfcaaGreat
