/- What is free, as a sum of bits; who can go by it. -/
import Derived.Test.YtdafpnpfcmgfcabMath5
namespace Go.Proofs.Ytdafpnpfcmgfcab

def bitsP (p : Nat → Bool) : Nat → Nat
  | 0 => 0
  | k + 1 => bitsP p k + (if p k then 2 ^ k else 0)
theorem bitsTo_eq (list things : List Str) : ∀ k, bitsTo list things k = bitsP (fun j => hasB list (nth things j)) k
  | 0 => rfl
  | k + 1 => by rw [bitsTo, bitsP, bitsTo_eq list things k]
theorem bitsP_lt (p : Nat → Bool) : ∀ k, bitsP p k < 2 ^ k
  | 0 => by simp [bitsP]
  | k + 1 => by
    have ih := bitsP_lt p k
    rw [bitsP, Nat.pow_succ]; split <;> omega
theorem bitsP_add {p q r : Nat → Bool} : ∀ {n : Nat}, (∀ k, k < n → p k = (q k || r k)) → (∀ k, k < n → (q k && r k) = false) → bitsP p n = bitsP q n + bitsP r n
  | 0, _, _ => rfl
  | n + 1, h1, h2 => by
    have ih := bitsP_add (n := n) (fun k hk => h1 k (by omega)) (fun k hk => h2 k (by omega))
    have e1 := h1 n (by omega)
    have e2 := h2 n (by omega)
    rw [bitsP, bitsP, bitsP, ih, e1]
    cases hq : q n <;> cases hr : r n <;> simp_all <;> omega
theorem bitsP_congr {p q : Nat → Bool} : ∀ {n : Nat}, (∀ k, k < n → p k = q k) → bitsP p n = bitsP q n
  | 0, _ => rfl
  | n + 1, h => by rw [bitsP, bitsP, bitsP_congr (n := n) (fun k hk => h k (by omega)), h n (by omega)]
theorem bitsP_bit (p : Nat → Bool) : ∀ k j, (bitsP p k).testBit j = (decide (j < k) && p j)
  | 0, j => by simp [bitsP]
  | k + 1, j => by
    have ih := bitsP_bit p k j
    have hlt := bitsP_lt p k
    rw [bitsP]
    by_cases hb : p k = true
    · rw [if_pos hb, Nat.add_comm]
      by_cases e : j = k
      · subst e
        rw [Nat.testBit_two_pow_add_eq, ih]
        simp [hb]
      · by_cases h : j < k
        · rw [Nat.testBit_two_pow_add_gt h, ih]
          have : j < k + 1 := by omega
          simp [h, this]
        · have h2 : 2 ^ k + bitsP p k < 2 ^ j := by
            have : 2 ^ (k + 1) ≤ 2 ^ j := Nat.pow_le_pow_right (by omega) (by omega)
            rw [Nat.pow_succ] at this; omega
          rw [Nat.testBit_lt_two_pow h2]
          have : ¬ j < k + 1 := by omega
          simp [this]
    · rw [if_neg hb, Nat.add_zero, ih]
      by_cases e : j = k
      · subst e
        simp at hb
        simp [hb]
      · have : decide (j < k + 1) = decide (j < k) := by rw [Bool.eq_iff_iff]; simp; omega
        rw [this]

/-- Thing k is free, if each batch is out or has it not. -/
def freeP (b : Book) (out : Nat → Bool) (k : Nat) : Bool := allLt b.batches.length (fun i => out i || !hasB (b.at i).has (nth b.things k))
def freeN (b : Book) (out : Nat → Bool) : Nat := bitsP (freeP b out) b.things.length
def hasBits (b : Book) : List Nat := b.batches.map (fun x => bitsN x.has b.things)
def needsBits (b : Book) : List Nat := b.batches.map (fun x => bitsN x.needs b.things)

theorem ok_apart2 {b : Book} (h : bookOk b = true) {p q : Nat} (hp : p < b.batches.length) (hq : q < b.batches.length) (hne : p ≠ q) {t : Str} (h1 : hasB (b.at p).has t = true) : hasB (b.at q).has t = false := by
  unfold bookOk at h
  simp only [Bool.and_eq_true, allLt_true] at h
  rw [← Bool.not_eq_true, hasB_true]
  rw [hasB_true] at h1
  intro h2
  by_cases hlt : q < p
  · have h3 := (h.2 p hp).2 q hlt
    simp only [Bool.not_eq_true'] at h3
    exact shareB_false.1 h3 t h1 h2
  · have h3 := (h.2 q hq).2 p (by omega)
    simp only [Bool.not_eq_true'] at h3
    exact shareB_false.1 h3 t h2 h1

def putOut (out : Nat → Bool) (p : Nat) : Nat → Bool := fun j => if j = p then true else out j
theorem freeP_put {b : Book} (h : bookOk b = true) {out : Nat → Bool} {p : Nat} (hp : p < b.batches.length) (ho : out p = false) (k : Nat) :
    freeP b (putOut out p) k = (freeP b out k || hasB (b.at p).has (nth b.things k)) ∧ (freeP b out k && hasB (b.at p).has (nth b.things k)) = false := by
  constructor
  · rw [Bool.eq_iff_iff, Bool.or_eq_true]
    unfold freeP
    rw [allLt_true, allLt_true]
    constructor
    · intro hh
      cases hb : hasB (b.at p).has (nth b.things k)
      · refine Or.inl (fun i hi => ?_)
        by_cases e : i = p
        · subst e; simp [hb]
        · have := hh i hi
          simpa [putOut, e] using this
      · exact Or.inr rfl
    · rintro (hh | hb) i hi
      · by_cases e : i = p
        · simp [putOut, e]
        · simpa [putOut, e] using hh i hi
      · by_cases e : i = p
        · simp [putOut, e]
        · simp [ok_apart2 h hp hi (fun k => e k.symm) hb]
  · cases hb : hasB (b.at p).has (nth b.things k)
    · simp
    · have : freeP b out k = false := allLt_no hp (by simp [ho, hb])
      simp [this]
theorem freeN_put {b : Book} (h : bookOk b = true) {out : Nat → Bool} {p : Nat} (hp : p < b.batches.length) (ho : out p = false) : freeN b (putOut out p) = freeN b out + bitsN (b.at p).has b.things := by
  unfold freeN bitsN
  rw [bitsTo_eq]
  exact bitsP_add (fun k _ => (freeP_put h hp ho k).1) (fun k _ => (freeP_put h hp ho k).2)
theorem freeN_congr {b : Book} {o1 o2 : Nat → Bool} (h : ∀ i, i < b.batches.length → o1 i = o2 i) : freeN b o1 = freeN b o2 := by
  unfold freeN
  refine bitsP_congr (fun k _ => ?_)
  unfold freeP
  exact allLt_congr (fun i hi => by rw [h i hi])
theorem freeN_all (b : Book) : freeN b (fun _ => true) = bitsN b.things b.things := by
  unfold freeN bitsN
  rw [bitsTo_eq]
  refine bitsP_congr (fun k hk => ?_)
  have h1 : freeP b (fun _ => true) k = true := allLt_of (fun i _ => rfl)
  rw [h1, hasB_of hk (by simp)]

theorem needs_in {b : Book} (h : bookOk b = true) {p : Nat} (hp : p < b.batches.length) {x : Str} (hx : x ∈ (b.at p).needs) : x ∈ b.things := by
  unfold bookOk at h
  simp only [Bool.and_eq_true, allLt_true, batchOk] at h
  have h3 := (h.2 p hp).1.1.2
  unfold namesOk at h3
  rw [allLt_true] at h3
  obtain ⟨i, hi, e⟩ := List.getElem_of_mem hx
  have := h3 i hi
  rw [Bool.and_eq_true, hasB_true, nth_get hi, e] at this
  exact this.1

/-- Who is not gone can go just if it can have all it needs. -/
theorem can_bits {b : Book} (h : bookOk b = true) {gone : List Str} {p : Nat} (hp : p < b.batches.length) :
    canB b p gone = true ↔ ∀ j, (bitsN (b.at p).needs b.things).testBit j = true → (freeN b (putOut (fun i => hasB gone (b.at i).name) p)).testBit j = true := by
  unfold canB
  rw [allLt_true]
  constructor
  · intro hc j hj
    rw [bitsN_bit, Bool.and_eq_true, decide_eq_true_eq] at hj
    unfold freeN
    rw [bitsP_bit, Bool.and_eq_true, decide_eq_true_eq]
    refine ⟨hj.1, allLt_of (fun i hi => ?_)⟩
    have := hc i hi
    unfold clash at this
    by_cases e : i = p
    · simp [putOut, e]
    · cases hg : hasB gone (b.at i).name
      · simp only [e, hg, decide_false, Bool.not_false, Bool.true_and, Bool.not_eq_true'] at this
        have hs := shareB_false.1 this
        have : hasB (b.at i).has (nth b.things j) = false := by
          rw [← Bool.not_eq_true, hasB_true]
          exact fun h1 => hs _ h1 (hasB_true.1 hj.2)
        simp [this]
      · simp [putOut, e, hg]
  · intro hb i hi
    unfold clash
    by_cases e : i = p
    · simp [e]
    · cases hg : hasB gone (b.at i).name
      · have hs : shareB (b.at i).has (b.at p).needs = false := by
          rw [shareB_false]
          intro x hx hn
          obtain ⟨j, hj, ej⟩ := List.getElem_of_mem (needs_in h hp hn)
          have h1 := hb j (by
            rw [bitsN_bit, nth_get hj, ej]
            simp [hj, hasB_true.2 hn])
          unfold freeN at h1
          rw [bitsP_bit, Bool.and_eq_true] at h1
          have h2 := allLt_true.1 h1.2 i hi
          rw [nth_get hj, ej, hasB_true.2 hx] at h2
          simp [putOut, e, hg] at h2
        simp [hs]
      · simp

end Go.Proofs.Ytdafpnpfcmgfcab
