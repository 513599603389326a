/- namesWhere and ShareMoves, beside those that are only leaving. -/
import Derived.Test.YtdafpnpfcmgfcabJE
import Derived.Test.YtdafpnpfcmgfcabCrewP
import Derived.Test.YtdafpnpfcmgfcabCrewH
import Derived.Test.YtdafpnpfcmgfcabMv1
import Derived.Test.YtdafpnpfcmgfcabB5
import Derived.Test.YtdafpnpfcmgfcabV7
namespace Go.Proofs.Ytdafpnpfcmgfcab
open Go Go.Conc Go.ConcN Go.RowKit
attribute [local go_sem] S_toList S_size S_get

theorem Grew.rfl' (v : World) : Grew v v := ⟨Nat.le_refl _, fun _ _ => rfl, rfl, rfl⟩
theorem Grew.tr {a b c : World} (h : Grew a b) (k : Grew b c) : Grew a c := ⟨Nat.le_trans h.size k.size, fun x hx => (k.low x (Nat.lt_of_lt_of_le hx h.size)).trans (h.low x hx), k.os.trans h.os, k.output.trans h.output⟩
theorem Grew.re (v : World) (K : Nat) (T : Nat → Question → Nat) : Grew v (World.re v K T) := ⟨Nat.le_refl _, fun _ _ => rfl, rfl, rfl⟩
theorem Grew.of {a b : World} (h : Ext a b) : Grew a b := ⟨h.size, fun x hx => h.block x hx, h.os, h.output⟩
/-- The same tape given, it is growth as the lone contracts know it. -/
theorem Grew.ext {a b : World} (h : Grew a b) : Ext (World.re a a.drawn b.tape) b := ⟨h.os, rfl, h.output, h.size, fun x hx => h.low x hx⟩
theorem Grew.batches {a b : World} (h : Grew a b) {x : Option Addr} {bs : List Batch} (hb : BatchesAt a x bs) : BatchesAt b x bs := BatchesAt.ext (w := World.re a a.drawn b.tape) hb h.ext
theorem Grew.book {a b : World} (h : Grew a b) {x y : Option Addr} {k : Book} (hb : BookAt a x y k) : BookAt b x y k := BookAt.ext (w := World.re a a.drawn b.tape) hb h.ext

/-- placesWhere as a contract. -/
theorem places_m [Floor] {v : World} {cnt : Nat} {yes : Nat → Bool} {lf : FuncId} {first cap : Array Value} (hcnt : cnt ≤ 31) (hfl : Floor.low ≤ v.heap.size) (hlook : LookW v cnt lf first cap yes) :
    CallsM Try.prog 45 #[.int .i64 cnt, .func (.func lf) first cap] v (fun r v' => r = .int .u32 ((sumTo cnt (bitW yes) : Nat) : Int) ∧ Grew v v') := by
  refine ⟨_, bodyP, Try.func45, by kernel_rfl, rfl, fun b₁ a₁ ops₁ i₁ rest₁ k₁ cs₁ m t _ _ h => ?_⟩
  exact (places_in h hcnt hfl hlook).trans fun m' t' ⟨v', h1, h2⟩ => .refl ⟨_, v', ⟨rfl, h1⟩, h2⟩

/-- Whether the bit of a place is in the sum. -/
theorem sumBit_bit (yes : Nat → Bool) : ∀ n i, i < n → (sumTo n (bitW yes)).testBit i = yes i := by
  intro n
  induction n with
  | zero => intro i hi; omega
  | succ n ih =>
    intro i hi
    have hlt := sumBit_lt yes n
    simp only [sumTo]
    unfold bitW at *
    cases hy : yes n with
    | false =>
      simp only [Bool.false_eq_true, if_false, Nat.add_zero]
      by_cases h : i < n
      · exact ih i h
      · obtain rfl : i = n := by omega
        rw [Nat.testBit_lt_two_pow hlt, hy]
    | true =>
      simp only [if_true]
      rw [Nat.add_comm]
      by_cases h : i < n
      · rw [Nat.testBit_two_pow_add_gt h]
        exact ih i h
      · obtain rfl : i = n := by omega
        rw [Nat.testBit_two_pow_add_eq, Nat.testBit_lt_two_pow hlt, hy]
        rfl

theorem and32 (z : Nat) (hz : z < 4294967296) : bits .and .u32 (z : Int) 1 = ((z % 2 : Nat) : Int) := by
  have h1 : (BitVec.ofInt 32 (z : Int)).toNat = z := by
    rw [BitVec.ofInt_natCast, BitVec.toNat_ofNat]; exact Nat.mod_eq_of_lt (by omega)
  have h2 : (BitVec.ofInt 32 (1 : Int)).toNat = 1 := by decide
  show IntKind.u32.wrap ((BitVec.ofInt 32 (z : Int) &&& BitVec.ofInt 32 (1 : Int)).toNat : Int) = _
  rw [BitVec.toNat_and, h1, h2, Nat.and_one_is_mod, IntKind.wrap_u32]
  omega
theorem bit_seen {yes : Nat → Bool} {n k N : Nat} (hn : n ≤ 31) (hk : k < n) (hN : sumTo n (bitW yes) = N) : (bits .and .u32 ((N : Int) / 2 ^ k) 1 == 1) = yes k := by
  have hlt : N < 4294967296 := by
    have h2 := sumBit_lt yes n
    have h3 : 2 ^ n ≤ 2 ^ 31 := Nat.pow_le_pow_right (by omega) hn
    omega
  have e : ((N : Int) / 2 ^ k) = ((N / 2 ^ k : Nat) : Int) := by simp
  rw [e, and32 _ (Nat.lt_of_le_of_lt (Nat.div_le_self _ _) hlt), ← sumBit_bit yes n k hk, hN]
  have hb : N.testBit k = decide (N / 2 ^ k % 2 = 1) := by rw [Nat.testBit_eq_decide_div_mod_eq]
  rw [hb]
  generalize N / 2 ^ k % 2 = r
  by_cases h : r = 1
  · subst h; rfl
  · rw [decide_eq_false h]
    simp
    omega

set_option maxHeartbeats 1000000 in
set_option maxRecDepth 100000 in
theorem namesWhere_m [Floor] (bs : List Batch) (a : Option Addr) (ca : Nat) (v : World) (hbs : BatchesAt v a bs) (h31 : bs.length ≤ 31) (hfl : Floor.low ≤ v.heap.size) {lf : FuncId} {first cap : Array Value} {yes : Nat → Bool} (hlook : LookW v bs.length lf first cap yes) :
    CallsM Try.prog 23 #[.slice a bs.length ca, .func (.func lf) first cap] v (fun r v' => Grew v v' ∧ OwnL v' v.heap.size r (pickL yes bs bs.length)) := by
  refine callsM_of Try.func23 (by kernel_rfl) rfl ?_
  simp only [Try.ntmps23, List.size_toArray, List.length_cons, List.length_nil, Nat.reduceAdd, Nat.reduceSub, Array.replicate_succ, Array.replicate_zero, List.push_toArray, List.append_toArray, List.nil_append, List.cons_append]
  refine mw_seq_wp tamed rfl (by kernel_rfl) (by kernel_rfl) (fun why h => by cases h) (fun T => ?_)
  go_wp2
  generalize hv1 : World.re v 0 T = v1
  have hG : Grew v v1 := by subst hv1; exact Grew.re v 0 T
  have hsz : v1.heap.size = v.heap.size := by subst hv1; rfl
  have hl1 : LookW v1 bs.length lf first cap yes := by subst hv1; exact hlook
  clear hv1
  refine mw_mid (fun a' v' => a' = ⟨#[.slice a bs.length ca, .func (.func lf) first cap, undef, undef, .slice none 0 0, .int .u32 ((sumTo bs.length (bitW yes) : Nat) : Int), undef, undef, undef, .slice a bs.length ca, .int .i64 bs.length, .func (.func lf) first cap, .int .u32 ((sumTo bs.length (bitW yes) : Nat) : Int), undef, undef, undef, undef, undef, undef, undef, undef, undef, undef, undef, undef, undef, undef, undef, undef, undef, undef, undef], []⟩ ∧ Grew v v') (by kernel_rfl) (fun why h => by cases h) (mw_region ?_) ?_
  · refine mo_list tamed [0, 1, 2] [3, 4] rfl (by kernel_rfl) (by kernel_rfl) (fun T2 => ?_)
    simp only [List.filterMap, List.getElem?_toArray, List.getElem?_cons_zero, List.getElem?_cons_succ]
    go_wp2
    refine mo_call (by kernel_rfl) rfl rfl rfl rfl (by simp [Act.eval]) ((places_m h31 (by rw [hsz]; exact hfl) hl1).re 0 T2) (fun r v2 hr => ?_)
    obtain ⟨rfl, hG2⟩ := hr
    walk_nrm
    refine mo_list tamed [4] [] rfl (by kernel_rfl) (by kernel_rfl) (fun T3 => ?_)
    simp only [List.filterMap, List.getElem?_toArray, List.getElem?_cons_zero, List.getElem?_cons_succ]
    go_wp2
    exact mo_nil ⟨rfl, rfl, hG.tr (hG2.tr (Grew.re _ _ _))⟩
  · rintro a' v2 ⟨rfl, hG2⟩
    have hbs2 := hG2.batches hbs
    clear hl1 hG hsz
    refine mw_wp tamed rfl (by kernel_rfl) (fun T2 => ?_)
    generalize hw : World.re v2 0 T2 = w
    replace hbs2 : BatchesAt w a bs := by subst hw; exact hbs2
    have HG : Hid (Grew v w) := by subst hw; exact hG2.tr (Grew.re _ _ _)
    clear hG2 hw
    go_wp2
    obtain ⟨i0, hi, hz0, hz1, hz2⟩ := info_str
    generalize hN : sumTo bs.length (bitW yes) = N
    have HN := hid hN
    clear hN
    go_loopw [6, 15] (fun o i wr => ∃ (k : Nat), k ≤ bs.length ∧ i = .int .i64 k ∧ Ext w wr ∧ OwnL wr w.heap.size o (pickL yes bs k)) (fun _ i _ => bs.length - (intOf i).toNat)
    case atStart => exact ⟨0, Nat.zero_le _, rfl, Ext.rfl' _, World.ownsRow_nil _ _ _ _⟩
    case round =>
      obtain ⟨k, hk, rfl, hext, hown⟩ := hrel
      have HE := hid hext
      have HO := hid hown
      have hb' := hbs2.ext hext
      have hle := pickL_len yes bs k
      clear hext hown
      by_cases hlt : k < bs.length
      · obtain ⟨ba, oa, rfl, hl, d1, g1, d2, g2, p0, p1, p2, s1, s2⟩ := hb'.2 k hlt
        have hbt := bit_seen h31 hlt HN.out
        have hzr := HE.out.size
        cases hy : yes k
        · rw [hy] at hbt
          have HP : Hid (pickL yes bs (k + 1) = pickL yes bs k) := pickL_no hy
          go_wp2
          go_roundw
          case rel => exact ⟨k + 1, by omega, by go_num, Ext.tr HE.out (ext_alloc _ _), by rw [HP.out]; exact HO.out.kp (ext_alloc _ _)⟩
          case measure => simp [intOf]; omega
        · rw [hy] at hbt
          have HP : Hid (pickL yes bs (k + 1) = pickL yes bs k ++ [(nthB bs k).name]) := pickL_yes hy
          have HO1 := hid (HO.out.kp (ext_alloc wr (.cells #[.string (S (nthB bs k).name), .slice d1 (nthB bs k).has.length g1, .slice d2 (nthB bs k).needs.length g2] 43)))
          generalize hPL : pickL yes bs k = L at *
          have HPL := hid hPL
          clear hPL
          go_wp2_with (at_builtin; refine wpList_append_own _ rfl _ _ 22 rfl w.heap.size 9 i0 (.string (S [])) 1 16 (uQ Try.underlying22) hi hz0 hz1 hz2 rfl (by decide) _ _ _ rfl (World.ownsRow.alloc HO1.out _) ⟨wr.heap.size + 1, 0, none⟩ 1 1 [.string (S (nthB bs k).name)] rfl rfl ?q1 ?q2 ?q3 ?q4 ?q5 ?_)
          case q1 =>
            intro j u hj
            match j, hj with
            | 0, hj => simp at hj; subst hj; simp [Addr.add]
          case q2 => intro u hu; simp at hu; subst hu; rfl
          case q3 => unfold maxLen; omega
          case q4 => omega
          case q5 => simp; omega
          · intro v' w3 hown' hgrow _
            have HN' : Hid (OwnL w3 w.heap.size v' (L ++ [(nthB bs k).name])) := OwnL.step hown'
            have HE' : Hid (Ext w w3) := ((HE.out.alloc hzr _).alloc (by simp; omega) _).grown hgrow (by simp; omega) (fun g hg => (HO1.out.lt g hg).1)
            clear hown' hgrow
            go_wp2
            go_roundw
            case rel => exact ⟨k + 1, by omega, by go_num, HE'.out, by rw [HP.out]; exact HN'.out⟩
            case measure => simp [intOf]; omega
      · have e : k = bs.length := by omega
        subst e
        go_wp2
        exact ⟨rfl, _, resultsC_tmp (t := 4) rfl _, HG.out.tr (Grew.of HE.out), HO.out.lo HG.out.size⟩
end Go.Proofs.Ytdafpnpfcmgfcab
