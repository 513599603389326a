/- What is free, as a sum of bits; who can go by it. The walk over the program's startGoing. -/
import Derived.Test.YtdafpnpfcmgfcaaGreatDoorKe21
import Derived.Test.YtdafpnpfcmgfcaaGreatDoorKe20
import Derived.Maps.AppendAt
import Derived.Deep.RegionLaw
import Derived.Deep.RegionHeld3
namespace Go.Proofs.YtdafpnpfcmgfcaaGreatDoor
section
def bitsP (p : Nat → Bool) : Nat → Nat
 | 0 => 0
 | k + 1 => bitsP p k + (if p k then 2 ^ k else 0)
theorem bitsTo_eq (list things : List Str) : ∀ k, bitsTo list things k = bitsP (fun j => hasB list (nth things j)) k
 | 0 => rfl
 | k + 1 => by rw [bitsTo, bitsP, bitsTo_eq list things k]
theorem bitsP_lt (p : Nat → Bool) : ∀ k, bitsP p k < 2 ^ k
 | 0 => by simp [bitsP]
 | k + 1 => by
  have ih := bitsP_lt p k
  rw [bitsP, Nat.pow_succ]; split <;> omega
theorem bitsP_add {p q r : Nat → Bool} : ∀ {n : Nat}, (∀ k, k < n → p k = (q k || r k)) → (∀ k, k < n → (q k && r k) = false) → bitsP p n = bitsP q n + bitsP r n
 | 0, _, _ => rfl
 | n + 1, h1, h2 => by
  have ih := bitsP_add (n := n) (fun k hk => h1 k (by omega)) (fun k hk => h2 k (by omega))
  have e1 := h1 n (by omega)
  have e2 := h2 n (by omega)
  rw [bitsP, bitsP, bitsP, ih, e1]
  cases hq : q n <;> cases hr : r n <;> simp_all <;> omega
theorem bitsP_congr {p q : Nat → Bool} : ∀ {n : Nat}, (∀ k, k < n → p k = q k) → bitsP p n = bitsP q n
 | 0, _ => rfl
 | n + 1, h => by rw [bitsP, bitsP, bitsP_congr (n := n) (fun k hk => h k (by omega)), h n (by omega)]
theorem bitsP_bit (p : Nat → Bool) : ∀ k j, (bitsP p k).testBit j = (decide (j < k) && p j)
 | 0, j => by simp [bitsP]
 | k + 1, j => by
  have ih := bitsP_bit p k j
  have hlt := bitsP_lt p k
  rw [bitsP]
  by_cases hb : p k = true
  ·rw [if_pos hb, Nat.add_comm]
   by_cases e : j = k
   ·subst e
    rw [Nat.testBit_two_pow_add_eq, ih]
    simp [hb]
   ·by_cases h : j < k
    ·rw [Nat.testBit_two_pow_add_gt h, ih]
     have : j < k + 1 := by omega
     simp [h, this]
    ·have h2 : 2 ^ k + bitsP p k < 2 ^ j := by
      have : 2 ^ (k + 1) ≤ 2 ^ j := Nat.pow_le_pow_right (by omega) (by omega)
      rw [Nat.pow_succ] at this; omega
     rw [Nat.testBit_lt_two_pow h2]
     have : ¬ j < k + 1 := by omega
     simp [this]
  ·rw [if_neg hb, Nat.add_zero, ih]
   by_cases e : j = k
   ·subst e
    simp at hb
    simp [hb]
   ·have : decide (j < k + 1) = decide (j < k) := by rw [Bool.eq_iff_iff]; simp; omega
    rw [this]
def freeP (b : Book) (out : Nat → Bool) (k : Nat) : Bool := allLt b.batches.length (fun i => out i || !hasB (b.at i).has (nth b.things k))
def freeN (b : Book) (out : Nat → Bool) : Nat := bitsP (freeP b out) b.things.length
def hasBits (b : Book) : List Nat := b.batches.map (fun x => bitsN x.has b.things)
def needsBits (b : Book) : List Nat := b.batches.map (fun x => bitsN x.needs b.things)
theorem ok_apart2 {b : Book} (h : bookOk b = true) {p q : Nat} (hp : p < b.batches.length) (hq : q < b.batches.length) (hne : p ≠ q) {t : Str} (h1 : hasB (b.at p).has t = true) : hasB (b.at q).has t = false := by
 unfold bookOk at h
 simp only [Bool.and_eq_true, allLt_true] at h
 rw [← Bool.not_eq_true, hasB_true]
 rw [hasB_true] at h1
 intro h2
 by_cases hlt : q < p
 ·have h3 := (h.2 p hp).2 q hlt
  simp only [Bool.not_eq_true'] at h3
  exact shareB_false.1 h3 t h1 h2
 ·have h3 := (h.2 q hq).2 p (by omega)
  simp only [Bool.not_eq_true'] at h3
  exact shareB_false.1 h3 t h2 h1
def putOut (out : Nat → Bool) (p : Nat) : Nat → Bool := fun j => if j = p then true else out j
theorem freeP_put {b : Book} (h : bookOk b = true) {out : Nat → Bool} {p : Nat} (hp : p < b.batches.length) (ho : out p = false) (k : Nat) :
  freeP b (putOut out p) k = (freeP b out k || hasB (b.at p).has (nth b.things k)) ∧ (freeP b out k && hasB (b.at p).has (nth b.things k)) = false := by
 constructor
 ·rw [Bool.eq_iff_iff, Bool.or_eq_true]
  unfold freeP
  rw [allLt_true, allLt_true]
  constructor
  ·intro hh
   cases hb : hasB (b.at p).has (nth b.things k)
   ·refine Or.inl (fun i hi => ?_)
    by_cases e : i = p
    ·subst e; simp [hb]
    ·have := hh i hi
     simpa [putOut, e] using this
   ·exact Or.inr rfl
  ·rintro (hh | hb) i hi
   ·by_cases e : i = p
    ·simp [putOut, e]
    ·simpa [putOut, e] using hh i hi
   ·by_cases e : i = p
    ·simp [putOut, e]
    ·simp [ok_apart2 h hp hi (fun k => e k.symm) hb]
 ·cases hb : hasB (b.at p).has (nth b.things k)
  ·simp
  ·have : freeP b out k = false := allLt_no hp (by simp [ho, hb])
   simp [this]
theorem freeN_put {b : Book} (h : bookOk b = true) {out : Nat → Bool} {p : Nat} (hp : p < b.batches.length) (ho : out p = false) : freeN b (putOut out p) = freeN b out + bitsN (b.at p).has b.things := by
 unfold freeN bitsN
 rw [bitsTo_eq]
 exact bitsP_add (fun k _ => (freeP_put h hp ho k).1) (fun k _ => (freeP_put h hp ho k).2)
theorem freeN_congr {b : Book} {o1 o2 : Nat → Bool} (h : ∀ i, i < b.batches.length → o1 i = o2 i) : freeN b o1 = freeN b o2 := by
 unfold freeN
 refine bitsP_congr (fun k _ => ?_)
 unfold freeP
 exact allLt_congr (fun i hi => by rw [h i hi])
theorem freeN_all (b : Book) : freeN b (fun _ => true) = bitsN b.things b.things := by
 unfold freeN bitsN
 rw [bitsTo_eq]
 refine bitsP_congr (fun k hk => ?_)
 have h1 : freeP b (fun _ => true) k = true := allLt_of (fun i _ => rfl)
 rw [h1, hasB_of hk (by simp)]
theorem needs_in {b : Book} (h : bookOk b = true) {p : Nat} (hp : p < b.batches.length) {x : Str} (hx : x ∈ (b.at p).needs) : x ∈ b.things := by
 unfold bookOk at h
 simp only [Bool.and_eq_true, allLt_true, batchOk] at h
 have h3 := (h.2 p hp).1.1.2
 unfold namesOk at h3
 rw [allLt_true] at h3
 obtain ⟨i, hi, e⟩ := List.getElem_of_mem hx
 have := h3 i hi
 rw [Bool.and_eq_true, hasB_true, nth_get hi, e] at this
 exact this.1
theorem can_bits {b : Book} (h : bookOk b = true) {gone : List Str} {p : Nat} (hp : p < b.batches.length) :
  canB b p gone = true ↔ ∀ j, (bitsN (b.at p).needs b.things).testBit j = true → (freeN b (putOut (fun i => hasB gone (b.at i).name) p)).testBit j = true := by
 unfold canB
 rw [allLt_true]
 constructor
 ·intro hc j hj
  rw [bitsN_bit, Bool.and_eq_true, decide_eq_true_eq] at hj
  unfold freeN
  rw [bitsP_bit, Bool.and_eq_true, decide_eq_true_eq]
  refine ⟨hj.1, allLt_of (fun i hi => ?_)⟩
  have := hc i hi
  unfold clash at this
  by_cases e : i = p
  ·simp [putOut, e]
  ·cases hg : hasB gone (b.at i).name
   ·simp only [e, hg, decide_false, Bool.not_false, Bool.true_and, Bool.not_eq_true'] at this
    have hs := shareB_false.1 this
    have : hasB (b.at i).has (nth b.things j) = false := by
     rw [← Bool.not_eq_true, hasB_true]
     exact fun h1 => hs _ h1 (hasB_true.1 hj.2)
    simp [this]
   ·simp [putOut, e, hg]
 ·intro hb i hi
  unfold clash
  by_cases e : i = p
  ·simp [e]
  ·cases hg : hasB gone (b.at i).name
   ·have hs : shareB (b.at i).has (b.at p).needs = false := by
     rw [shareB_false]
     intro x hx hn
     obtain ⟨j, hj, ej⟩ := List.getElem_of_mem (needs_in h hp hn)
     have h1 := hb j (by
      rw [bitsN_bit, nth_get hj, ej]
      simp [hj, hasB_true.2 hn])
     unfold freeN at h1
     rw [bitsP_bit, Bool.and_eq_true] at h1
     have h2 := allLt_true.1 h1.2 i hi
     rw [nth_get hj, ej, hasB_true.2 hx] at h2
     simp [putOut, e, hg] at h2
    simp [hs]
   ·simp
end
section
open Go.RowKit
theorem Qry.infoBool : (Qry.prog.info? 4).map (fun i => (i.zero, i.size, i.bytes)) = some (some (.bool false), 1, 1) := by kernel_rfl
theorem Qry.infoBits : (Qry.prog.info? 123).map (fun i => (i.zero, i.size, i.bytes)) = some (some (.int .u64 0), 1, 8) := by kernel_rfl
theorem info_bits : ∃ i, Qry.prog.info? 123 = some i ∧ i.zero = some (.int .u64 0) ∧ i.size = 1 ∧ i.bytes = 8 := by
 obtain ⟨i, hi, hzz⟩ := Option.map_eq_some_iff.1 Qry.infoBits
 simp only [Prod.mk.injEq] at hzz
 exact ⟨i, hi, hzz.1, hzz.2.1, hzz.2.2⟩
theorem step_append_own_at {P : Program} {w : World} {ops : Array Oper} {o : Oper} {a : Act} {K : Act → World → Prop} {Q : Exit → Act → World → Prop} {E : Prop} (hgd : o.guard = none) (s x : Operand) (t : TypeId)
  (ho : o.op = .call { callee := .builtin .append, args := #[s, x], argTypes := #[t, t] })
  (base : Nat) (e : TypeId) (i : TypeInfo) (z : Value) (size bytes : Nat) (ht : P.underlying t = some (.slice e)) (hi : P.info? e = some i) (hz : i.zero = some z)
  (hsize : i.size = size) (hby : i.bytes = bytes) (hzs : z.cells.size = size) (hsz : 0 < size)
  (v : Value) (n : Nat) (xs : List Value) (hs : a.eval s = v) (hown : w.ownsRow base e size v n xs)
  (ad : Addr) (m c : Nat) (news : List Value) (hx : a.eval x = .slice (some ad) m c) (hl : news.length = m * size) (hnews : ∀ j u, news[j]? = some u → w.cell? (ad.add j) = some u) (h1 : ∀ u ∈ news, u.oneCell' = true)
  (h63 : n + m ≤ maxLen) (hbytes : (n + m) * bytes ≤ 140737488355328) (hbase : base ≤ w.heap.size)
  (h : ∀ v' w', w'.ownsRow base e size v' (n + m) (xs ++ news) → w.grownBy w' v.ownBlock → (v'.ownBlock = v.ownBlock ∨ v'.ownBlock = some w.heap.size) → K (a.put o.dst v') w') :
  if Region.wanted o (yielded ops a.tmps) = true then Oper.wp P o a w K Q else E := by
 have hw : Region.wanted o (yielded ops a.tmps) = true := by simp [Region.wanted, hgd]
 rw [if_pos hw]
 obtain ⟨v', w', hr, h2, h3, _, h5⟩ := run_append_own_at (P := P) w base t o.type e i z size bytes ht hi hz hsize hby hzs hsz v n xs hown ad m c news hl hnews h1 h63 hbytes hbase
 unfold Oper.wp execOp
 simp only [ho, resolve, invoke, builtin, Sem.run_bind, Sem.run_pure, Result.andThen_ok, List.map_toArray, List.map_cons, List.map_nil, hs, hx, hr]
 exact h v' w' h2 h3 h5
def Sep (vh vn : Value) : Prop := ∀ k, vh.ownBlock = some k → vn.ownBlock ≠ some k
theorem ownsRow_grown {w w' : World} {base : Nat} {e : TypeId} {size : Nat} {v u : Value} {n : Nat} {xs : List Value} (h : w.ownsRow base e size v n xs) (hg : w.grownBy w' u.ownBlock) (hs : ∀ k, v.ownBlock = some k → u.ownBlock ≠ some k) : w'.ownsRow base e size v n xs := by
 refine h.kept hg ?_
 cases hv : v.ownBlock with
 | none => exact Or.inl rfl
 | some k => exact Or.inr (fun e => hs k hv e.symm)
theorem rowIs_grown {w w' : World} {b base : Nat} {t : TypeId} {n m : Nat} {f : Nat → Value} {e : TypeId} {size : Nat} {u : Value} {xs : List Value} (h : w.rowIs b t n f) (hu : w.ownsRow base e size u m xs) (hb : b < base) (hg : w.grownBy w' u.ownBlock) : w'.rowIs b t n f :=
 h.of_block (hg.block b h.lt (fun e => ownBlock_ge hu hb e.symm))
theorem GoingAt.pushHas {w w3 : World} {base g bg : Nat} {vh vn v' : Value} {has needs : List Nat} {gone : List Bool} {free x : Nat} (h : GoingAt w base g bg vh vn has needs gone free) (hsep : Sep vh vn)
  (ho : w3.ownsRow base 123 1 v' (has.length + 1) (has.map (fun y : Nat => Value.int .u64 (y : Int)) ++ [.int .u64 (x : Int)])) (hg : w.grownBy w3 vh.ownBlock) (hl : v'.ownBlock = vh.ownBlock ∨ v'.ownBlock = some w.heap.size) :
  GoingAt (w3.setCell ⟨g, 0, none⟩ v') base g bg v' vn (has ++ [x]) needs gone free ∧ Sep v' vn := by
 have hs2 : ∀ k, vn.ownBlock = some k → vh.ownBlock ≠ some k := fun k hk e => hsep k e hk
 have hvn3 := ownsRow_grown h.nrow hg hs2
 have ho' : w3.ownsRow base 123 1 v' (has ++ [x]).length ((has ++ [x]).map (fun y : Nat => Value.int .u64 (y : Int))) := by
  rw [List.length_append, List.map_append]; exact ho
 refine ⟨⟨?_, ?_, ?_, ?_, h.hg, h.hbg, h.ne⟩, ?_⟩
 ·refine ((rowIs_grown h.cells h.hrow h.hg hg).set 0 v').congr ?_
  intro j hj
  match j, hj with
  | 0, _ => rfl
  | 1, _ => rfl
  | 2, _ => rfl
  | 3, _ => rfl
 ·exact (rowIs_grown h.row h.hrow h.hbg hg).setOther (a := ⟨g, 0, none⟩) (Ne.symm h.ne) _
 ·exact ownsRow_setCell_other ho' (ownBlock_ge ho' h.hg) _
 ·exact ownsRow_setCell_other hvn3 (ownBlock_ge hvn3 h.hg) _
 ·intro k hk e
  rcases hl with hl | hl
  ·exact hsep k (by rw [← hl]; exact hk) e
  ·have : k = w.heap.size := by rw [hl] at hk; injection hk with hk; exact hk.symm
   have := (h.nrow.lt k e).2; omega
theorem GoingAt.pushNeeds {w w3 : World} {base g bg : Nat} {vh vn v' : Value} {has needs : List Nat} {gone : List Bool} {free x : Nat} (h : GoingAt w base g bg vh vn has needs gone free) (hsep : Sep vh vn)
  (ho : w3.ownsRow base 123 1 v' (needs.length + 1) (needs.map (fun y : Nat => Value.int .u64 (y : Int)) ++ [.int .u64 (x : Int)])) (hg : w.grownBy w3 vn.ownBlock) (hl : v'.ownBlock = vn.ownBlock ∨ v'.ownBlock = some w.heap.size) :
  GoingAt (w3.setCell ⟨g, 1, none⟩ v') base g bg vh v' has (needs ++ [x]) gone free ∧ Sep vh v' := by
 have hvh3 := ownsRow_grown h.hrow hg hsep
 have ho' : w3.ownsRow base 123 1 v' (needs ++ [x]).length ((needs ++ [x]).map (fun y : Nat => Value.int .u64 (y : Int))) := by
  rw [List.length_append, List.map_append]; exact ho
 refine ⟨⟨?_, ?_, ?_, ?_, h.hg, h.hbg, h.ne⟩, ?_⟩
 ·refine ((rowIs_grown h.cells h.nrow h.hg hg).set 1 v').congr ?_
  intro j hj
  match j, hj with
  | 0, _ => rfl
  | 1, _ => rfl
  | 2, _ => rfl
  | 3, _ => rfl
 ·exact (rowIs_grown h.row h.nrow h.hbg hg).setOther (a := ⟨g, 1, none⟩) (Ne.symm h.ne) _
 ·exact ownsRow_setCell_other hvh3 (ownBlock_ge hvh3 h.hg) _
 ·exact ownsRow_setCell_other ho' (ownBlock_ge ho' h.hg) _
 ·intro k hk e
  rcases hl with hl | hl
  ·exact hsep k hk (by rw [← hl]; exact e)
  ·have : k = w.heap.size := by rw [hl] at e; injection e with e; exact e.symm
   have := (h.hrow.lt k hk).2; omega
theorem GoingAt.setFree {w : World} {base g bg : Nat} {vh vn : Value} {has needs : List Nat} {gone : List Bool} {free : Nat} (h : GoingAt w base g bg vh vn has needs gone free) (f' : Nat) :
  GoingAt (w.setCell ⟨g, 3, none⟩ (.int .u64 (f' : Int))) base g bg vh vn has needs gone f' := by
 refine ⟨(h.cells.set 3 _).congr ?_, h.row.setOther (a := ⟨g, 3, none⟩) (Ne.symm h.ne) _, ownsRow_setCell_other h.hrow (ownBlock_ge h.hrow h.hg) _, ownsRow_setCell_other h.nrow (ownBlock_ge h.nrow h.hg) _, h.hg, h.hbg, h.ne⟩
 intro j hj
 match j, hj with
 | 0, _ => rfl
 | 1, _ => rfl
 | 2, _ => rfl
 | 3, _ => rfl
theorem start_going {w wc : World} {o : Obj} {n f : Nat} (e : wc.Alike (((w.alloc o).alloc (.cells (madeCells #[.bool false] n) 4)).alloc (.cells #[.slice none 0 0, .slice none 0 0, .slice (some ⟨w.heap.size + 1, 0, none⟩) n n, .int .u64 (f : Int)] 127))) :
  GoingAt wc (w.heap.size + 3) (w.heap.size + 2) (w.heap.size + 1) (.slice none 0 0) (.slice none 0 0) [] [] (List.replicate n false) f := by
 refine ⟨?_, ?_, World.ownsRow_nil _ _ _ _, World.ownsRow_nil _ _ _ _, by omega, by omega, by omega⟩
 ·refine rowIs_alike ?_ e
  have h := World.rowIs_alloc ((w.alloc o).alloc (.cells (madeCells #[.bool false] n) 4)) #[.slice none 0 0, .slice none 0 0, .slice (some ⟨w.heap.size + 1, 0, none⟩) n n, .int .u64 (f : Int)] 127 (goingCells (.slice none 0 0) (.slice none 0 0) (w.heap.size + 1) n f) (fun i hi => by
   have hi' : i < 4 := by simpa using hi
   match i, hi' with
   | 0, _ => rfl
   | 1, _ => rfl
   | 2, _ => rfl
   | 3, _ => rfl)
  simpa using h
 ·refine rowIs_alike ?_ e
  have h := (World.rowIs_made (w.alloc o) (.bool false) n 4).alloc (.cells #[.slice none 0 0, .slice none 0 0, .slice (some ⟨w.heap.size + 1, 0, none⟩) n n, .int .u64 (f : Int)] 127)
  have hs : (w.alloc o).heap.size = w.heap.size + 1 := by simp
  rw [hs] at h
  rw [List.length_replicate]
  exact h.congr (fun i hi => by simp [gnth, List.getD_eq_getElem?_getD, hi])
theorem take_bits {l : List Batch} (f : Batch → Nat) {i : Nat} (h : i < l.length) : (l.map f).take (i + 1) = (l.map f).take i ++ [f (nthB l i)] := by
 rw [List.take_succ_eq_append_getElem (by simpa using h), nthB_get h]; simp
theorem free_step {b : Book} (hok : bookOk b = true) {i : Nat} (hi : i < b.batches.length) : freeN b (fun j => decide (i ≤ j)) = freeN b (fun j => decide (i + 1 ≤ j)) + bitsN (nthB b.batches i).has b.things := by
 show _ = _ + bitsN (b.at i).has b.things
 rw [← freeN_put hok (out := fun j => decide (i + 1 ≤ j)) hi (by simp)]
 refine freeN_congr (fun j _ => ?_)
 unfold putOut
 by_cases e : j = i
 ·simp [e]
 ·rw [if_neg e, Bool.eq_iff_iff]; simp; omega
theorem freeN_small (b : Book) (out : Nat → Bool) (h8 : b.things.length ≤ 8) : freeN b out < 1024 := by
 have h1 := bitsP_lt (freeP b out) b.things.length
 have h2 := pow_small h8
 unfold freeN; omega
theorem bitsN_small (l things : List Str) (h8 : things.length ≤ 8) : bitsN l things < 1024 := by
 have h1 := bitsTo_lt l things things.length
 have h2 := pow_small h8
 unfold bitsN; omega
end
end Go.Proofs.YtdafpnpfcmgfcaaGreatDoor
