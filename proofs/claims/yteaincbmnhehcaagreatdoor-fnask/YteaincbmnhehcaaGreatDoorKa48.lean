/- The looks, in company: canGo. The looks, in company: who has what another needs. namesWhere and ShareMoves, beside those that are only leaving. ShareMoves, beside those that are only leaving. -/
import Derived.Test.YteaincbmnhehcaaGreatDoorKa45
import Derived.Conc.CompanyMem
import Derived.Test.YteaincbmnhehcaaGreatDoorKa47
import Derived.Test.YteaincbmnhehcaaGreatDoorKa25
import Derived.Test.YteaincbmnhehcaaGreatDoorKa14
import Derived.Test.YteaincbmnhehcaaGreatDoorKa12
namespace Go.Proofs.YteaincbmnhehcaaGreatDoor
section
open Go Go.Conc Go.ConcN Go.RowKit Go.Conc.Lib Go.ConcR.Gen Go.ConcN.Gen
open Go.ConcR (Payload)
structure Hg (B0 i : Nat) (w0 wS w : World) : Prop where
 low : ∀ b k x, b ≤ B0 → w0.cell? ⟨b, k, none⟩ = some x → w.cell? ⟨b, k, none⟩ = some x
 st : RW 172 (B0 + 2) (B0 + 3 + i) 1 (B0 + 1) 0 wS w
section
variable {S : Sh} {B0 bs i : Nat} {w0 wS w w₁ : World}
theorem Hg.rely (h : Hg B0 i w0 wS w) (r : RW 172 (B0 + 2) (B0 + 3 + i) 1 (B0 + 1) 0 w w₁) : Hg B0 i w0 wS w₁ :=
 ⟨fun b k x hb hx => (cell_of_block (r.low b (by omega) (by omega) (by omega)) k).trans (h.low b k x hb hx), RW.trans h.st r⟩
theorem Hg.cell (h : Hg B0 i w0 wS w) {b k : Nat} {x : Value} (hb : b ≤ B0 ∧ ¬ S b) (hc : w0.cell? ⟨b, k, none⟩ = some x) : w.cell? ⟨b, k, none⟩ = some x := h.low b k x hb.1 hc
theorem drawW : LetsDraw (DWs (B0 + 2) NoOwn (RdW S B0 bs i) (B0 + 3 + i) 1 1) := fun _ => ⟨⟨rfl, rfl, rfl, rfl, fun _ _ => rfl, id, fun _ _ => rfl⟩, by simp⟩
theorem ownDrawW (w : World) : RW 172 (B0 + 2) (B0 + 3 + i) 1 (B0 + 1) 0 w { w with drawn := w.drawn + 1 } := ⟨fun _ _ _ _ => rfl, id, id, rfl⟩
end
set_option maxRecDepth 100000 in
set_option maxHeartbeats 2000000 in
theorem canGo_c {S : Sh} {B0 bs i : Nat} {w0 : World} {g bg b1 b2 k1 k2 n1 n2 n3 : Nat} {free h d : Int} {gone : Bool} (hS : ∀ b, S b → b < B0) (hg : g ≤ B0 ∧ ¬ S g) (hbg : bg ≤ B0 ∧ ¬ S bg) (hb1 : b1 ≤ B0 ∧ ¬ S b1) (hb2 : b2 ≤ B0 ∧ ¬ S b2)
  (c0 : w0.cell? ⟨g, 0, none⟩ = some (.slice (some ⟨b1, 0, none⟩) n1 k1)) (c1 : w0.cell? ⟨g, 1, none⟩ = some (.slice (some ⟨b2, 0, none⟩) n2 k2)) (c2 : w0.cell? ⟨g, 2, none⟩ = some (.slice (some ⟨bg, 0, none⟩) n3 n3)) (c3 : w0.cell? ⟨g, 3, none⟩ = some (.int .u64 free))
  (r : w0.cell? ⟨bg, i, none⟩ = some (.bool gone)) (q1 : w0.cell? ⟨b1, i, none⟩ = some (.int .u64 h)) (q2 : w0.cell? ⟨b2, i, none⟩ = some (.int .u64 d)) (h1 : i < n1) (h2 : i < n2) (h3 : i < n3) (hwr : IntKind.u64.wrap (free + h) = free + h) :
  ∃ nf, ∀ w, (∀ b k x, b ≤ B0 → w0.cell? ⟨b, k, none⟩ = some x → w.cell? ⟨b, k, none⟩ = some x) → CallsC Tryz.prog false (RWk 172 B0 i) (DWk S B0 bs i) 64 #[.pointer (some ⟨g, 0, none⟩), .int .i64 i] nf w (fun r w' => r = .bool (!gone && (bits .andNot .u64 d (free + h) == 0)) ∧ RWk 172 B0 i w w') := by
 have hi0 : (0 : Int) ≤ (i : Int) := by omega
 have hi1 : (i : Int) < (n1 : Int) := by omega
 have hi2 : (i : Int) < (n2 : Int) := by omega
 have hi3 : (i : Int) < (n3 : Int) := by omega
 unfold RWk DWk
 cases gone with
 | false =>
  co_apply Exists.intro
  intro wS hlow
  have hF : Hg B0 i w0 wS wS := ⟨hlow, RW.refl _⟩
  clear hlow
  co_apply callsC_of_wpC Tryz.func64 (by rfl) rfl
  simp only [Tryz.ntmps64, List.size_toArray, List.length_cons, List.length_nil, Nat.reduceAdd, Nat.reduceSub, Array.replicate_succ, Array.replicate_zero, List.push_toArray, List.append_toArray, List.nil_append, List.cons_append]
  co_stmt termsW Hg.rely hF (co_quiet termsW)
  co_apply wpC_seq termsW
  co_held termsW drawW ownDrawW (Hg B0 i w0 wS) Hg.rely hF
  co_take 0 termsW Hg.rely hF hw (skip) (co_quiet termsW)
  co_take 1 termsW Hg.rely hF hw (skip) (co_quiet termsW)
  co_take 2 termsW Hg.rely hF hw (skip) (co_quiet termsW)
  co_take 3 termsW Hg.rely hF hw (have hc := hw.cell hg c3) (refine ⟨AsideCell.refl _ _ _ _, ?_⟩; co_evs (exact evW_rd hS _ _ (Or.inl (by assumption))))
  co_take 4 termsW Hg.rely hF hw (skip) (co_quiet termsW)
  co_take 5 termsW Hg.rely hF hw (skip) (co_quiet termsW)
  co_take 6 termsW Hg.rely hF hw (skip) (co_quiet termsW)
  co_take 7 termsW Hg.rely hF hw (have hc := hw.cell hg c0) (refine ⟨AsideCell.refl _ _ _ _, ?_⟩; co_evs (exact evW_rd hS _ _ (Or.inl (by assumption))))
  co_take 8 termsW Hg.rely hF hw (skip) (co_quiet termsW)
  co_take 9 termsW Hg.rely hF hw (skip) (co_still termsW)
  co_take 10 termsW Hg.rely hF hw (have hc := hw.cell hb1 q1) (refine ⟨AsideCell.refl _ _ _ _, ?_⟩; co_evs (exact evW_rd hS _ _ (Or.inl (by assumption))))
  co_take 11 termsW Hg.rely hF hw (skip) (co_still termsW)
  co_take 12 termsW Hg.rely hF hw (skip) (co_quiet termsW)
  co_done
  co_apply wpC_seq termsW
  co_reg termsW
  co_op Hg.rely hF (co_quiet termsW)
  co_op Hg.rely hF (co_quiet termsW)
  co_op Hg.rely hF (co_quiet termsW)
  co_opw Hg.rely hF (have hc := hF.cell hg c2) (refine ⟨AsideCell.refl _ _ _ _, ?_⟩; co_evs (exact evW_rd hS _ _ (Or.inl (by assumption))))
  co_op Hg.rely hF (co_quiet termsW)
  co_op Hg.rely hF (co_still termsW)
  co_opw Hg.rely hF (have hc := hF.cell hbg r) (refine ⟨AsideCell.refl _ _ _ _, ?_⟩; co_evs (exact evW_rd hS _ _ (Or.inl (by assumption))))
  co_op Hg.rely hF (co_quiet termsW)
  co_op Hg.rely hF (co_quiet termsW)
  co_op Hg.rely hF (co_quiet termsW)
  co_op Hg.rely hF (co_quiet termsW)
  co_op Hg.rely hF (co_quiet termsW)
  co_opw Hg.rely hF (have hc := hF.cell hg c1) (refine ⟨AsideCell.refl _ _ _ _, ?_⟩; co_evs (exact evW_rd hS _ _ (Or.inl (by assumption))))
  co_op Hg.rely hF (co_quiet termsW)
  co_op Hg.rely hF (co_still termsW)
  co_opw Hg.rely hF (have hc := hF.cell hb2 q2) (refine ⟨AsideCell.refl _ _ _ _, ?_⟩; co_evs (exact evW_rd hS _ _ (Or.inl (by assumption))))
  co_op Hg.rely hF (co_quiet termsW)
  co_op Hg.rely hF (co_still termsW)
  co_op Hg.rely hF (co_still termsW)
  co_op Hg.rely hF (co_quiet termsW)
  co_op Hg.rely hF (co_quiet termsW)
  co_apply opsC_nil termsW
  co_then
  co_ctl termsW
  exact ⟨rfl, _, resultsC_tmp (by rfl) _, by simp, hF.st⟩
 | true =>
  co_apply Exists.intro
  intro wS hlow
  have hF : Hg B0 i w0 wS wS := ⟨hlow, RW.refl _⟩
  clear hlow
  co_apply callsC_of_wpC Tryz.func64 (by rfl) rfl
  simp only [Tryz.ntmps64, List.size_toArray, List.length_cons, List.length_nil, Nat.reduceAdd, Nat.reduceSub, Array.replicate_succ, Array.replicate_zero, List.push_toArray, List.append_toArray, List.nil_append, List.cons_append]
  co_stmt termsW Hg.rely hF (co_quiet termsW)
  co_apply wpC_seq termsW
  co_held termsW drawW ownDrawW (Hg B0 i w0 wS) Hg.rely hF
  co_take 0 termsW Hg.rely hF hw (skip) (co_quiet termsW)
  co_take 1 termsW Hg.rely hF hw (skip) (co_quiet termsW)
  co_take 2 termsW Hg.rely hF hw (skip) (co_quiet termsW)
  co_take 3 termsW Hg.rely hF hw (have hc := hw.cell hg c3) (refine ⟨AsideCell.refl _ _ _ _, ?_⟩; co_evs (exact evW_rd hS _ _ (Or.inl (by assumption))))
  co_take 4 termsW Hg.rely hF hw (skip) (co_quiet termsW)
  co_take 5 termsW Hg.rely hF hw (skip) (co_quiet termsW)
  co_take 6 termsW Hg.rely hF hw (skip) (co_quiet termsW)
  co_take 7 termsW Hg.rely hF hw (have hc := hw.cell hg c0) (refine ⟨AsideCell.refl _ _ _ _, ?_⟩; co_evs (exact evW_rd hS _ _ (Or.inl (by assumption))))
  co_take 8 termsW Hg.rely hF hw (skip) (co_quiet termsW)
  co_take 9 termsW Hg.rely hF hw (skip) (co_still termsW)
  co_take 10 termsW Hg.rely hF hw (have hc := hw.cell hb1 q1) (refine ⟨AsideCell.refl _ _ _ _, ?_⟩; co_evs (exact evW_rd hS _ _ (Or.inl (by assumption))))
  co_take 11 termsW Hg.rely hF hw (skip) (co_still termsW)
  co_take 12 termsW Hg.rely hF hw (skip) (co_quiet termsW)
  co_done
  co_apply wpC_seq termsW
  co_reg termsW
  co_op Hg.rely hF (co_quiet termsW)
  co_op Hg.rely hF (co_quiet termsW)
  co_op Hg.rely hF (co_quiet termsW)
  co_opw Hg.rely hF (have hc := hF.cell hg c2) (refine ⟨AsideCell.refl _ _ _ _, ?_⟩; co_evs (exact evW_rd hS _ _ (Or.inl (by assumption))))
  co_op Hg.rely hF (co_quiet termsW)
  co_op Hg.rely hF (co_still termsW)
  co_opw Hg.rely hF (have hc := hF.cell hbg r) (refine ⟨AsideCell.refl _ _ _ _, ?_⟩; co_evs (exact evW_rd hS _ _ (Or.inl (by assumption))))
  co_op Hg.rely hF (co_quiet termsW)
  co_op Hg.rely hF (co_quiet termsW)
  co_apply opsC_unwanted termsW rfl (by rfl)
  walk_nrm
  co_apply opsC_unwanted termsW rfl (by rfl)
  walk_nrm
  co_apply opsC_unwanted termsW rfl (by rfl)
  walk_nrm
  co_apply opsC_unwanted termsW rfl (by rfl)
  walk_nrm
  co_apply opsC_unwanted termsW rfl (by rfl)
  walk_nrm
  co_apply opsC_unwanted termsW rfl (by rfl)
  walk_nrm
  co_apply opsC_unwanted termsW rfl (by rfl)
  walk_nrm
  co_apply opsC_unwanted termsW rfl (by rfl)
  walk_nrm
  co_apply opsC_unwanted termsW rfl (by rfl)
  walk_nrm
  co_apply opsC_unwanted termsW rfl (by rfl)
  walk_nrm
  co_op Hg.rely hF (co_quiet termsW)
  co_op Hg.rely hF (co_quiet termsW)
  co_apply opsC_nil termsW
  co_then
  co_ctl termsW
  exact ⟨rfl, _, resultsC_tmp (by rfl) _, by simp, hF.st⟩
end
section
open Go Go.Conc Go.ConcN Go.RowKit Go.Conc.Lib Go.ConcR.Gen Go.ConcN.Gen
open Go.ConcR (Payload)
end
section
open Go Go.Conc Go.ConcN Go.RowKit
attribute [local go_sem] S_toList S_size S_get
theorem Grew.tr {a b c : World} (h : Grew a b) (k : Grew b c) : Grew a c := ⟨Nat.le_trans h.size k.size, fun x hx => (k.low x (Nat.lt_of_lt_of_le hx h.size)).trans (h.low x hx), k.os.trans h.os, k.output.trans h.output⟩
theorem Grew.re (v : World) (K : Nat) (T : Nat → Question → Nat) : Grew v (World.re v K T) := ⟨Nat.le_refl _, fun _ _ => rfl, rfl, rfl⟩
theorem Grew.of {a b : World} (h : Ext a b) : Grew a b := ⟨h.size, fun x hx => h.block x hx, h.os, h.output⟩
theorem Grew.ext {a b : World} (h : Grew a b) : Ext (World.re a a.drawn b.tape) b := ⟨h.os, rfl, h.output, h.size, fun x hx => h.low x hx⟩
theorem Grew.batches {a b : World} (h : Grew a b) {x : Option Addr} {bs : List Batch} (hb : BatchesAt a x bs) : BatchesAt b x bs := BatchesAt.ext (w := World.re a a.drawn b.tape) hb h.ext
theorem Grew.book {a b : World} (h : Grew a b) {x y : Option Addr} {k : Book} (hb : BookAt a x y k) : BookAt b x y k := BookAt.ext (w := World.re a a.drawn b.tape) hb h.ext
theorem places_m [Floor] {v : World} {cnt : Nat} {yes : Nat → Bool} {lf : FuncId} {first cap : Array Value} (hcnt : cnt ≤ 31) (hfl : Floor.low ≤ v.heap.size) (hlook : LookW v cnt lf first cap yes) :
  CallsM Tryz.prog 89 #[.int .i64 cnt, .func (.func lf) first cap] v (fun r v' => r = .int .u32 ((sumTo cnt (bitW yes) : Nat) : Int) ∧ Grew v v') := by
 refine ⟨_, bodyP, Tryz.func89, by kernel_rfl, rfl, fun b₁ a₁ ops₁ i₁ rest₁ k₁ cs₁ m t _ _ h => ?_⟩
 exact (places_in h hcnt hfl hlook).trans fun m' t' ⟨v', h1, h2⟩ => .refl ⟨_, v', ⟨rfl, h1⟩, h2⟩
theorem sumBit_bit (yes : Nat → Bool) : ∀ n i, i < n → (sumTo n (bitW yes)).testBit i = yes i := by
 intro n
 induction n with
 | zero => intro i hi; omega
 | succ n ih =>
  intro i hi
  have hlt := sumBit_lt yes n
  simp only [sumTo]
  unfold bitW at *
  cases hy : yes n with
  | false =>
   simp only [Bool.false_eq_true, if_false, Nat.add_zero]
   by_cases h : i < n
   ·exact ih i h
   ·obtain rfl : i = n := by omega
    rw [Nat.testBit_lt_two_pow hlt, hy]
  | true =>
   simp only [if_true]
   rw [Nat.add_comm]
   by_cases h : i < n
   ·rw [Nat.testBit_two_pow_add_gt h]
    exact ih i h
   ·obtain rfl : i = n := by omega
    rw [Nat.testBit_two_pow_add_eq, Nat.testBit_lt_two_pow hlt, hy]
    rfl
theorem and32 (z : Nat) (hz : z < 4294967296) : bits .and .u32 (z : Int) 1 = ((z % 2 : Nat) : Int) := by
 have h1 : (BitVec.ofInt 32 (z : Int)).toNat = z := by
  rw [BitVec.ofInt_natCast, BitVec.toNat_ofNat]; exact Nat.mod_eq_of_lt (by omega)
 have h2 : (BitVec.ofInt 32 (1 : Int)).toNat = 1 := by decide
 show IntKind.u32.wrap ((BitVec.ofInt 32 (z : Int) &&& BitVec.ofInt 32 (1 : Int)).toNat : Int) = _
 rw [BitVec.toNat_and, h1, h2, Nat.and_one_is_mod, IntKind.wrap_u32]
 omega
theorem bit_seen {yes : Nat → Bool} {n k N : Nat} (hn : n ≤ 31) (hk : k < n) (hN : sumTo n (bitW yes) = N) : (bits .and .u32 ((N : Int) / 2 ^ k) 1 == 1) = yes k := by
 have hlt : N < 4294967296 := by
  have h2 := sumBit_lt yes n
  have h3 : 2 ^ n ≤ 2 ^ 31 := Nat.pow_le_pow_right (by omega) hn
  omega
 have e : ((N : Int) / 2 ^ k) = ((N / 2 ^ k : Nat) : Int) := by simp
 rw [e, and32 _ (Nat.lt_of_le_of_lt (Nat.div_le_self _ _) hlt), ← sumBit_bit yes n k hk, hN]
 have hb : N.testBit k = decide (N / 2 ^ k % 2 = 1) := by rw [Nat.testBit_eq_decide_div_mod_eq]
 rw [hb]
 generalize N / 2 ^ k % 2 = r
 by_cases h : r = 1
 ·subst h; rfl
 ·rw [decide_eq_false h]
  simp
  omega
set_option maxHeartbeats 1000000 in
set_option maxRecDepth 100000 in
theorem namesWhere_m [Floor] (bs : List Batch) (a : Option Addr) (ca : Nat) (v : World) (hbs : BatchesAt v a bs) (h31 : bs.length ≤ 31) (hfl : Floor.low ≤ v.heap.size) {lf : FuncId} {first cap : Array Value} {yes : Nat → Bool} (hlook : LookW v bs.length lf first cap yes) :
  CallsM Tryz.prog 62 #[.slice a bs.length ca, .func (.func lf) first cap] v (fun r v' => Grew v v' ∧ OwnL v' v.heap.size r (pickL yes bs bs.length)) := by
 refine callsM_of Tryz.func62 (by kernel_rfl) rfl ?_
 simp only [Tryz.ntmps62, List.size_toArray, List.length_cons, List.length_nil, Nat.reduceAdd, Nat.reduceSub, Array.replicate_succ, Array.replicate_zero, List.push_toArray, List.append_toArray, List.nil_append, List.cons_append]
 refine mw_seq_wp tamed rfl (by kernel_rfl) (by kernel_rfl) (fun why h => by cases h) (fun T => ?_)
 go_wp2
 generalize hv1 : World.re v 0 T = v1
 have hG : Grew v v1 := by subst hv1; exact Grew.re v 0 T
 have hsz : v1.heap.size = v.heap.size := by subst hv1; rfl
 have hl1 : LookW v1 bs.length lf first cap yes := by subst hv1; exact hlook
 clear hv1
 refine mw_mid (fun a' v' => a' = ⟨#[.slice a bs.length ca, .func (.func lf) first cap, undef, undef, .slice none 0 0, .int .u32 ((sumTo bs.length (bitW yes) : Nat) : Int), undef, undef, undef, .slice a bs.length ca, .int .i64 bs.length, .func (.func lf) first cap, .int .u32 ((sumTo bs.length (bitW yes) : Nat) : Int), undef, undef, undef, undef, undef, undef, undef, undef, undef, undef, undef, undef, undef, undef, undef, undef, undef, undef, undef], []⟩ ∧ Grew v v') (by kernel_rfl) (fun why h => by cases h) (mw_region ?_) ?_
 ·refine mo_list tamed [0, 1, 2] [3, 4] rfl (by kernel_rfl) (by kernel_rfl) (fun T2 => ?_)
  simp only [List.filterMap, List.getElem?_toArray, List.getElem?_cons_zero, List.getElem?_cons_succ]
  go_wp2
  refine mo_call (by kernel_rfl) rfl rfl rfl rfl (by simp [Act.eval]) ((places_m h31 (by rw [hsz]; exact hfl) hl1).re 0 T2) (fun r v2 hr => ?_)
  obtain ⟨rfl, hG2⟩ := hr
  walk_nrm
  refine mo_list tamed [4] [] rfl (by kernel_rfl) (by kernel_rfl) (fun T3 => ?_)
  simp only [List.filterMap, List.getElem?_toArray, List.getElem?_cons_zero, List.getElem?_cons_succ]
  go_wp2
  exact mo_nil ⟨rfl, rfl, hG.tr (hG2.tr (Grew.re _ _ _))⟩
 ·rintro a' v2 ⟨rfl, hG2⟩
  have hbs2 := hG2.batches hbs
  clear hl1 hG hsz
  refine mw_wp tamed rfl (by kernel_rfl) (fun T2 => ?_)
  generalize hw : World.re v2 0 T2 = w
  replace hbs2 : BatchesAt w a bs := by subst hw; exact hbs2
  have HG : Hid (Grew v w) := by subst hw; exact hG2.tr (Grew.re _ _ _)
  clear hG2 hw
  go_wp2
  obtain ⟨i0, hi, hz0, hz1, hz2⟩ := info_str
  generalize hN : sumTo bs.length (bitW yes) = N
  have HN := hid hN
  clear hN
  go_loopw [6, 15] (fun o i wr => ∃ (k : Nat), k ≤ bs.length ∧ i = .int .i64 k ∧ Ext w wr ∧ OwnL wr w.heap.size o (pickL yes bs k)) (fun _ i _ => bs.length - (intOf i).toNat)
  case atStart => exact ⟨0, Nat.zero_le _, rfl, Ext.rfl' _, World.ownsRow_nil _ _ _ _⟩
  case round =>
   obtain ⟨k, hk, rfl, hext, hown⟩ := hrel
   have HE := hid hext
   have HO := hid hown
   have hb' := hbs2.ext hext
   have hle := pickL_len yes bs k
   clear hext hown
   by_cases hlt : k < bs.length
   ·obtain ⟨ba, oa, rfl, hl, d1, g1, d2, g2, p0, p1, p2, s1, s2⟩ := hb'.2 k hlt
    have hbt := bit_seen h31 hlt HN.out
    have hzr := HE.out.size
    cases hy : yes k
    ·rw [hy] at hbt
     have HP : Hid (pickL yes bs (k + 1) = pickL yes bs k) := pickL_no hy
     go_wp2
     go_roundw
     case rel => exact ⟨k + 1, by omega, by go_num, Ext.tr HE.out (ext_alloc _ _), by rw [HP.out]; exact HO.out.kp (ext_alloc _ _)⟩
     case measure => simp [intOf]; omega
    ·rw [hy] at hbt
     have HP : Hid (pickL yes bs (k + 1) = pickL yes bs k ++ [(nthB bs k).name]) := pickL_yes hy
     have HO1 := hid (HO.out.kp (ext_alloc wr (.cells #[.string (S (nthB bs k).name), .slice d1 (nthB bs k).has.length g1, .slice d2 (nthB bs k).needs.length g2] 73)))
     generalize hPL : pickL yes bs k = L at *
     have HPL := hid hPL
     clear hPL
     go_wp2_with (at_builtin; refine wpList_append_own _ rfl _ _ 23 rfl w.heap.size 9 i0 (.string (S [])) 1 16 (uQ Tryz.underlying23) hi hz0 hz1 hz2 rfl (by decide) _ _ _ rfl (World.ownsRow.alloc HO1.out _) ⟨wr.heap.size + 1, 0, none⟩ 1 1 [.string (S (nthB bs k).name)] rfl rfl ?q1 ?q2 ?q3 ?q4 ?q5 ?_)
     case q1 =>
      intro j u hj
      match j, hj with
      | 0, hj => simp at hj; subst hj; simp [Addr.add]
     case q2 => intro u hu; simp at hu; subst hu; rfl
     case q3 => unfold maxLen; omega
     case q4 => omega
     case q5 => simp; omega
     ·intro v' w3 hown' hgrow _
      have HN' : Hid (OwnL w3 w.heap.size v' (L ++ [(nthB bs k).name])) := OwnL.step hown'
      have HE' : Hid (Ext w w3) := ((HE.out.alloc hzr _).alloc (by simp; omega) _).grown hgrow (by simp; omega) (fun g hg => (HO1.out.lt g hg).1)
      clear hown' hgrow
      go_wp2
      go_roundw
      case rel => exact ⟨k + 1, by omega, by go_num, HE'.out, by rw [HP.out]; exact HN'.out⟩
      case measure => simp [intOf]; omega
   ·have e : k = bs.length := by omega
    subst e
    go_wp2
    exact ⟨rfl, _, resultsC_tmp (t := 4) rfl _, HG.out.tr (Grew.of HE.out), HO.out.lo HG.out.size⟩
end
section
open Go Go.Conc Go.ConcN Go.RowKit
attribute [local go_sem] S_toList S_size S_get
def ords (md : Region.Mode) (ops : Array Oper) : Nat → Array Bool → List (List Nat)
 | 0, _ => [[]]
 | fuel + 1, listed => match Region.ready md ops listed with
  | [] => [[]]
  | rs => rs.flatMap fun i => (ords md ops fuel (listed.setIfInBounds i true)).map (i :: ·)
theorem go_mem (md : Region.Mode) (ops : Array Oper) : ∀ (fuel t : Nat) (listed : Array Bool), Region.linearise.go md ops fuel t listed [] ∈ ords md ops fuel listed := by
 intro fuel
 induction fuel with
 | zero => intro t listed; simp [Region.linearise.go, ords]
 | succ fuel ih =>
  intro t listed
  simp only [Region.linearise.go]
  change (match (Region.ready md ops listed)[t % (Region.ready md ops listed).length]? with
   | some i => Region.linearise.go md ops fuel (t / (Region.ready md ops listed).length) (listed.setIfInBounds i true) [i]
   | none => [].reverse) ∈ _
  cases hi : (Region.ready md ops listed)[t % (Region.ready md ops listed).length]? with
  | none =>
   have hnil : Region.ready md ops listed = [] := by
    cases hr : Region.ready md ops listed with
    | nil => rfl
    | cons x xs =>
     rw [hr] at hi
     have hlt : t % (x :: xs).length < (x :: xs).length := Nat.mod_lt _ (by simp)
     simp at hi
     simp at hlt
     omega
   simp [ords, hnil]
  | some i =>
   simp only []
   rw [linearise_go_acc, List.reverse_singleton, List.singleton_append]
   have hm : i ∈ Region.ready md ops listed := List.mem_of_getElem? hi
   unfold ords
   split
   ·rename_i h0; rw [h0] at hm; cases hm
   ·exact List.mem_flatMap.2 ⟨i, hm, List.mem_map.2 ⟨_, ih _ _, rfl⟩⟩
theorem mw_orders [Floor] {P : Program} {R : Exit → Act → World → Prop} {a : Act} {v : World} {id : Nat} {ops : Array Oper} (hm : P.follows .mixedOrders = true) (H : ∀ l ∈ ords .any ops ops.size (Array.replicate ops.size false), MO P ops l R a v) : MW P (.region id ops true) R a v :=
 mw_region_draw fun t => H _ (by
  simp only [Region.schedule, hm, Bool.true_or, if_true]
  exact go_mem _ _ _ _ _)
theorem mo_split [Floor] {Q P : Program} {R : Exit → Act → World → Prop} {a : Act} {v : World} (hT : Tamed Q P) {ops : Array Oper} (n : Nat) (l : List Nat) (ha : a.defers = []) (hops : ops.all (okOp P) = true) (hl : (l.take n).all (fun i => decide (i < ops.size)) = true) (H : ∀ T, wpList Q ops (fun e a' v' => e = .normal ∧ MO P ops (l.drop n) R a' v') ((l.take n).filterMap fun i => ops[i]?) a (World.re v 0 T)) : MO P ops l R a v := by
 have := mo_list hT (l.take n) (l.drop n) ha hops hl H
 rwa [List.take_append_drop] at this
theorem place_own {b : Book} (h : bookOk b = true) {p : Nat} (hp : p < b.batches.length) : place (namesOf b.batches) (b.at p).name = p := by
 have hm : (b.at p).name ∈ namesOf b.batches := by
  have hn := nth_namesOf hp
  have hlt : p < (namesOf b.batches).length := by rw [namesOf_length]; exact hp
  have : nth (namesOf b.batches) p ∈ namesOf b.batches := by rw [nth_get hlt]; exact List.getElem_mem hlt
  rw [hn] at this
  exact this
 have h1 : place (namesOf b.batches) (b.at p).name < b.batches.length := by have := place_lt.2 hm; rwa [namesOf_length] at this
 have h2 := place_nth hm
 rw [nth_namesOf h1] at h2
 exact name_inj h h1 hp h2
theorem look_canGo {b : Book} {v : World} {base g bg : Nat} {vh vn : Value} (hok : bookOk b = true) (hst : GoingAt v base g bg vh vn (hasBits b) (needsBits b) (List.replicate b.batches.length false) (freeN b (fun _ => false))) :
  LookW v b.batches.length 64 #[.pointer (some ⟨g, 0, none⟩)] #[] (fun i => canB b i []) := by
 intro S B0 bs i hi hS hkn
 have h8 := ok_things hok
 have hl1 : (hasBits b).length = b.batches.length := by simp [hasBits]
 have hl2 : (needsBits b).length = b.batches.length := by simp [needsBits]
 obtain ⟨b1, k1, rfl, _, q1⟩ := own_bits hst.hrow (i := i) (by omega)
 obtain ⟨b2, k2, rfl, _, q2⟩ := own_bits hst.nrow (i := i) (by omega)
 have c0 := hst.cells.cell (i := 0) (by omega)
 have c1 := hst.cells.cell (i := 1) (by omega)
 have c2 := hst.cells.cell (i := 2) (by omega)
 have c3 := hst.cells.cell (i := 3) (by omega)
 simp only [goingCells] at c0 c1 c2 c3
 have r := hst.row.cell (i := i) (by simpa using hi)
 have hgn : gnth (List.replicate b.batches.length false) i = false := by simp [gnth, List.getD_eq_getElem?_getD, hi]
 rw [hgn] at r
 have hf := freeN_small b (fun _ => false) h8
 have hh : bnth (hasBits b) i < 1024 := by rw [bnth_has hi]; exact bitsN_small _ _ h8
 have hd : bnth (needsBits b) i < 1024 := by rw [bnth_needs hi]; exact bitsN_small _ _ h8
 have hw : IntKind.u64.wrap ((freeN b (fun _ => false) : Int) + (bnth (hasBits b) i : Int)) = (freeN b (fun _ => false) : Int) + (bnth (hasBits b) i : Int) := wrapU (by omega) (by omega)
 have hval : (!false && (bits .andNot .u64 (bnth (needsBits b) i : Int) ((freeN b (fun _ => false) : Int) + (bnth (hasBits b) i : Int)) == 0)) = canB b i [] := by
  have hs := go_step hok (gone := []) (place_own hok hi) hi (List.replicate b.batches.length false) (by rw [hgn]; simp [outOf, hasB])
  have ho : outOf b [] = fun _ => false := by funext j; simp [outOf, hasB]
  rw [hgn, ho] at hs
  rw [bsub_eq hd hf hh]
  rw [hs]
  simp [hasB]
 obtain ⟨nf, hnf⟩ := canGo_c (S := S) (bs := bs) (w0 := v) hS (hkn _ _ _ c0) (hkn _ _ _ r) (hkn _ _ _ q1) (hkn _ _ _ q2) c0 c1 c2 c3 r q1 q2 (by omega) (by omega) (by simpa using hi) hw
 rw [hval] at hnf
 exact ⟨nf, fun w hw => by
  have := hnf w (fun b k x _ h => hw b k x h)
  simpa using this⟩
def MidMv (b : Book) (a1 a2 : Option Addr) (c1 c2 : Nat) (v : World) (a' : Act) (v' : World) : Prop :=
 ∃ r t3 t4 t5 t6 t7 t8 t9 t10 t11, a' = ⟨#[.agg #[.slice a1 b.things.length c1, .slice a2 b.batches.length c2], .pointer (some ⟨v.heap.size, 0, none⟩), r, t3, t4, t5, t6, t7, t8, t9, t10, t11], []⟩ ∧ Grew v v' ∧ OwnL v' v.heap.size r (movesL b)
set_option maxHeartbeats 1000000 in
set_option maxRecDepth 100000 in
theorem moves_m [Floor] (b : Book) (a1 a2 : Option Addr) (c1 c2 : Nat) (v : World) (hb : BookAt v a1 a2 b) (hfl : Floor.low ≤ v.heap.size) :
  CallsM Tryz.prog 20 #[.agg #[.slice a1 b.things.length c1, .slice a2 b.batches.length c2]] v (fun r v' => Grew v v' ∧ OwnL v' v.heap.size r (movesL b)) := by
 refine callsM_of Tryz.func20 (by kernel_rfl) rfl ?_
 simp only [Tryz.ntmps20, List.size_toArray, List.length_cons, List.length_nil, Nat.reduceAdd, Nat.reduceSub, Array.replicate_succ, Array.replicate_zero, List.push_toArray, List.append_toArray, List.nil_append, List.cons_append]
 refine mw_seq_wp tamed rfl (by kernel_rfl) (by kernel_rfl) (fun why h => by cases h) (fun T => ?_)
 go_wp2
 refine mw_seq_wp tamed rfl (by kernel_rfl) (by kernel_rfl) (fun why h => by cases h) (fun T2 => ?_)
 have e0 : (World.re v 0 T).heap.size = v.heap.size := rfl
 rw [e0]
 generalize hw : World.re ((World.re v 0 T).alloc (.cells #[.slice a1 b.things.length c1, .slice a2 b.batches.length c2] 26)) 0 T2 = w1
 have hG1 : Grew (v.alloc (.cells #[.slice a1 b.things.length c1, .slice a2 b.batches.length c2] 26)) w1 := by
  subst hw
  exact ⟨Nat.le_refl _, fun _ _ => rfl, rfl, rfl⟩
 clear hw e0 T T2
 have hG0 : Grew v (v.alloc (.cells #[.slice a1 b.things.length c1, .slice a2 b.batches.length c2] 26)) := Grew.of (ext_alloc _ _)
 have hx0 := box_cell (w := World.re v v.drawn w1.tape) hG1.ext (i := 0) rfl
 have hx1 := box_cell (w := World.re v v.drawn w1.tape) hG1.ext (i := 1) rfl
 have e0 : (World.re v v.drawn w1.tape).heap.size = v.heap.size := rfl
 rw [e0] at hx0 hx1
 clear e0
 have hb1 := (hG0.tr hG1).book hb
 go_wp2_with fail
 refine (implBookOk_any b _ _ _ _ _ hb1).mono ?_
 rintro e w2 ⟨rfl, hext2⟩
 have HG2 := hid ((hG0.tr hG1).tr (Grew.of hext2))
 have HGB := hid (hG1.tr (Grew.of hext2))
 replace hx0 := hext2.keep hx0
 replace hx1 := hext2.keep hx1
 replace hb1 := hb1.ext hext2
 clear hext2 hG1 hG0
 cases hok : bookOk b
 ·go_wp2_with fail
  exact ⟨rfl, _, resultsC_tmp (t := 2) rfl _, HG2.out, by
   have : movesL b = [] := by simp [movesL, hok]
   rw [this]; exact World.ownsRow_nil _ _ _ _⟩
 ·go_wp2_with fail
  have h5 : b.batches.length ≤ 5 := by
   have h := hok
   unfold bookOk at h
   simp only [Bool.and_eq_true, decide_eq_true_eq] at h
   exact h.1.2
  have HML : Hid (movesL b = pickL (fun i => canB b i []) b.batches b.batches.length) := by show _ = _; simp [movesL, hok]
  refine mw_mid (MidMv b a1 a2 c1 c2 v) (by kernel_rfl) (fun why h => by cases h) (mw_orders (by kernel_rfl) fun l hl => ?_) ?_
  ·have ho : l ∈ ([[0, 1, 2, 3, 4, 5, 6], [0, 2, 1, 3, 4, 5, 6], [0, 2, 3, 1, 4, 5, 6], [0, 2, 3, 4, 1, 5, 6], [2, 0, 1, 3, 4, 5, 6], [2, 0, 3, 1, 4, 5, 6], [2, 0, 3, 4, 1, 5, 6], [2, 3, 0, 1, 4, 5, 6], [2, 3, 0, 4, 1, 5, 6], [2, 3, 4, 0, 1, 5, 6]] : List (List Nat)) := by
    have e : ∀ A B : List (List Nat), A = B → l ∈ A → l ∈ B := fun A B h => h ▸ id
    exact e _ _ (by kernel_rfl) hl
   clear hl
   simp only [List.mem_cons, List.not_mem_nil, or_false] at ho
   have h8 := ok_things hok
   rcases ho with rfl | rfl | rfl | rfl | rfl | rfl | rfl | rfl | rfl | rfl
   all_goals
    refine mo_split tamed 5 _ rfl (by kernel_rfl) (by kernel_rfl) (fun T3 => ?_)
    simp only [List.take, List.drop, List.filterMap, List.getElem?_toArray, List.getElem?_cons_zero, List.getElem?_cons_succ]
    generalize hw : World.re w2 0 T3 = w3
    have hG3 : Grew v w3 := by subst hw; exact HG2.out.tr (Grew.re _ _ _)
    have hx03 : w3.cell? ⟨v.heap.size, 0, none⟩ = some (.slice a1 b.things.length c1) := by subst hw; exact hx0
    have hx13 : w3.cell? ⟨v.heap.size, 1, none⟩ = some (.slice a2 b.batches.length c2) := by subst hw; exact hx1
    have hb3 : BookAt w3 a1 a2 b := by subst hw; exact hb1
    clear hw T3
    go_wp2_with (go_at_call 63; refine (startGoing_any b _ _ _ _ _ hb3 hok h8 h5).mono ?_; rintro e w4 ⟨base, g, bg, vh, vn, rfl, hext4, _, _, hgo⟩; (try replace hx03 := hext4.keep hx03); (try replace hx13 := hext4.keep hx13))
    refine mo_call (by kernel_rfl) rfl rfl rfl rfl (by simp [Act.eval]) (namesWhere_m b.batches a2 c2 w4 (hb3.ext hext4).2 (by omega) (Nat.le_trans hfl (hG3.tr (Grew.of hext4)).size) (look_canGo hok hgo)) (fun r v5 hr => ?_)
    obtain ⟨hG5, ho5⟩ := hr
    have hG35 := hG3.tr (Grew.of hext4)
    have HO5 : Hid (OwnL v5 v.heap.size r (movesL b)) := by
     show OwnL _ _ _ _
     rw [HML.out]
     exact ho5.lo hG35.size
    have HG5 := hid (hG35.tr hG5)
    clear ho5 hG5 hG35 hext4 hgo hx03 hx13 hb3 hG3
    walk_nrm
    refine mo_split tamed 1 _ rfl (by kernel_rfl) (by kernel_rfl) (fun T4 => ?_)
    simp only [List.take, List.drop, List.filterMap, List.getElem?_toArray, List.getElem?_cons_zero, List.getElem?_cons_succ]
    go_wp2
    exact mo_nil ⟨rfl, r, _, _, _, _, _, _, _, _, _, rfl, HG5.out.tr (Grew.re _ _ _), HO5.out⟩
  ·rintro a' v' ⟨r, t3, t4, t5, t6, t7, t8, t9, t10, t11, rfl, hg, ho⟩
   refine mw_wp tamed rfl (by kernel_rfl) (fun T3 => ?_)
   go_wp2
   exact ⟨rfl, _, resultsC_tmp (t := 2) rfl _, hg.tr (Grew.re _ _ _), ho⟩
end
end Go.Proofs.YteaincbmnhehcaaGreatDoor
