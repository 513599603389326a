/- What the law FnTop says of books, over lists: each deed keeps a book that is ok and safe ok and safe; of a safe book somebody can have all they need, and go. The walk over DrawShareDoes. The walk over DrawShareDoes. -/
import Derived.Test.YtdafpnpfcmgfcaaGreatDoorKe46
import Derived.Test.YtdafpnpfcmgfcaaGreatDoorKe37
namespace Go.Proofs.YtdafpnpfcmgfcaaGreatDoor
section
def lackN (y : Batch) : List Str := y.needs.filter (fun t => !hasB y.has t)
def lackTo (bs : List Batch) (n : Str) : Nat → List Str
 | 0 => []
 | i + 1 => lackTo bs n i ++ (if ((nthB bs i).name == n) = true then lackN (nthB bs i) else [])
def lackB (b : Book) (n : Str) : List Str := lackTo b.batches n b.batches.length
theorem lackTo_at {b : Book} (hok : bookOk b = true) {p : Nat} (hp : p < b.batches.length) : ∀ i, i ≤ b.batches.length → lackTo b.batches (nthB b.batches p).name i = if p < i then lackN (nthB b.batches p) else []
 | 0, _ => by simp [lackTo]
 | i + 1, hi => by
  have ih := lackTo_at hok hp i (by omega)
  rw [lackTo, ih]
  by_cases e : i = p
  ·subst e
   simp
  ·have hne : ((nthB b.batches i).name == (nthB b.batches p).name) = false := by
    rw [beq_eq_false_iff_ne]
    exact fun h => e (name_uniq hok (by omega) hp h)
   rw [hne]
   simp only [Bool.false_eq_true, if_false, List.append_nil]
   by_cases h : p < i
   ·rw [if_pos h, if_pos (by omega)]
   ·rw [if_neg h, if_neg (by omega)]
theorem lackB_at {b : Book} (hok : bookOk b = true) {p : Nat} (hp : p < b.batches.length) : lackB b (nthB b.batches p).name = lackN (nthB b.batches p) := by
 unfold lackB
 rw [lackTo_at hok hp _ (Nat.le_refl _), if_pos hp]
theorem top_ask {b : Book} (hok : bookOk b = true) {m : Str} (hm : m ∈ movesL b) : (askB b m (lackB b m)).2 = 0 := by
 have hml : movesL b = pickL (fun i => canB b i []) b.batches b.batches.length := by simp [movesL, hok]
 have hm0 := hm
 rw [hml, pickL_mem] at hm
 obtain ⟨p, hp, hcan, rfl⟩ := hm
 have hh : hereB b (nthB b.batches p).name = true := hasB_true.2 (List.mem_map.2 ⟨_, nthB_mem hp, rfl⟩)
 have hw : whereB b (nthB b.batches p).name = p := name_uniq hok (where_lt hh) hp (where_name hok hh)
 rw [lackB_at hok hp]
 have hea := each_at (ok_iff.1 hok) hp
 have hl : namesOk (lackN (nthB b.batches p)) (b.at p).needs = true := namesOk_iff.2 ⟨(namesOk_iff.1 hea.1).1.sublist List.filter_sublist, fun x hx => (List.mem_filter.1 hx).1⟩
 have hcn := (can_iff hok hp).1 hcan
 have ht : takenB b p (lackN (nthB b.batches p)) = false := by
  cases h : takenB b p (lackN (nthB b.batches p))
  ·rfl
  ·exfalso
   obtain ⟨i, hi, h5⟩ := anyLt_true.1 h
   simp only [Bool.and_eq_true, Bool.not_eq_true', beq_eq_false_iff_ne] at h5
   obtain ⟨t, ht1, ht2⟩ := shareB_true.1 h5.2
   exact hcn _ (nthB_mem hp) rfl _ (nthB_mem hi) (fun e => h5.1 (name_uniq hok hi hp e)) (by simp) t ht1 (List.mem_filter.1 ht2).1
 have h6 : (askB b (nthB b.batches p).name (lackN (nthB b.batches p))).2 ≠ 6 := fun h => by
  have := six_moves h
  rw [hasB_true.2 hm0] at this
  cases this
 unfold askB at h6 ⊢
 rw [hw] at h6 ⊢
 simp only [hok, hh, hl, ht, Bool.true_eq_false, Bool.false_eq_true, if_false] at h6 ⊢
 split
 ·rename_i h
  rw [if_pos h] at h6
  exact absurd rfl h6
 ·rfl
theorem top_moves {b : Book} (hs : safeB b = true) (hn : 0 < b.batches.length) : 0 < (movesL b).length := by
 cases h : (movesL b).length with
 | succ _ => omega
 | zero =>
  have hst : stuckB b = true := by simp [stuckB, safe_ok hs, hn, h]
  rw [stuck_unsafe hst] at hs
  cases hs
theorem top_stuck {b : Book} (hs : safeB b = true) : stuckB b = false := by
 cases h : stuckB b
 ·rfl
 ·rw [stuck_unsafe h] at hs; cases hs
theorem top_leave {b : Book} {m : Str} {l : List Str} (h0 : (askB b m l).2 = 0) : (leaveB (askB b m l).1 m).2 = 0 := by
 obtain ⟨hok, hh, hl⟩ := ask_zero h0
 have hok' : bookOk (askB b m l).1 = true := ask_ok hok
 have hbk : (askB b m l).1 = giveB b (whereB b m) l := by
  have := ask_book b m l
  rw [if_pos h0] at this
  exact this.symm
 have hn := where_name hok hh
 have hh' : hereB (askB b m l).1 m = true := by
  rw [hbk]
  refine hasB_true.2 (List.mem_map.2 ⟨_, nthB_mem (i := whereB b m) (by simpa [giveB] using where_lt hh), ?_⟩)
  rw [nthB_get (by simpa [giveB] using where_lt hh)]
  simp only [giveB, List.getElem_set_self]
  exact hn
 unfold leaveB
 simp [hok', hh']
theorem ask_safe {b : Book} {n : Str} {l : List Str} (hs : safeB b = true) : safeB (askB b n l).1 = true := by
 by_cases h0 : (askB b n l).2 = 0
 ·have h := zero_safe h0
  rw [hs] at h
  simpa using h
 ·by_cases h1 : (askB b n l).2 = 1
  ·have hok := safe_ok hs
   unfold askB at h1
   simp only [hok, Bool.true_eq_false, if_false] at h1
   split at h1
   ·cases h1
   ·split at h1
    ·cases h1
    ·split at h1
     ·cases h1
     ·split at h1 <;> cases h1
  ·rw [rest_book h0 h1]; exact hs
structure Deed (b B : Book) (k : Nat) : Prop where
 ok : bookOk B = true
 safe : safeB B = true
 same : k ≠ 0 → B = b
theorem deed_enter {b : Book} (hs : safeB b = true) (n : Str) (l : List Str) : Deed b (enterB b n l).1 (enterB b n l).2 := by
 have hok := safe_ok hs
 by_cases h0 : (enterB b n l).2 = 0
 ·exact ⟨enter_ok hok, by rw [enter_safe h0]; exact hs, fun h => absurd h0 h⟩
 ·have e : (enterB b n l).1 = b := by
   have := enter_book b n l
   rw [if_neg h0] at this
   split at this
   ·rename_i h1
    exfalso
    unfold enterB at h1
    simp only [hok, Bool.true_eq_false, if_false] at h1
    split at h1
    ·cases h1
    ·split at h1
     ·cases h1
     ·split at h1 <;> cases h1
   ·exact this.symm
  rw [e]
  exact ⟨hok, hs, fun _ => rfl⟩
theorem deed_ask {b : Book} (hs : safeB b = true) (n : Str) (l : List Str) : Deed b (askB b n l).1 (askB b n l).2 := by
 have h1 : (askB b n l).2 ≠ 1 := fun h1 => by
  have e := one_book h1
  have h := ask_ok (n := n) (things := l) (safe_ok hs)
  have hok := safe_ok hs
  unfold askB at h1
  simp only [hok, Bool.true_eq_false, if_false] at h1
  split at h1
  ·cases h1
  ·split at h1
   ·cases h1
   ·split at h1
    ·cases h1
    ·split at h1 <;> cases h1
 exact ⟨ask_ok (safe_ok hs), ask_safe hs, fun h0 => rest_book h0 h1⟩
theorem deed_less {b : Book} (hs : safeB b = true) (n : Str) (l : List Str) : Deed b (lessB b n l).1 (lessB b n l).2 := by
 have hok := safe_ok hs
 by_cases h0 : (lessB b n l).2 = 0
 ·exact ⟨less_ok hok, less_safe h0 hs, fun h => absurd h0 h⟩
 ·have e : (lessB b n l).1 = b := by
   have := less_book b n l
   rw [if_neg h0] at this
   split at this
   ·rename_i h1
    exfalso
    unfold lessB at h1
    simp only [hok, Bool.true_eq_false, if_false] at h1
    split at h1
    ·cases h1
    ·split at h1 <;> cases h1
   ·exact this.symm
  rw [e]
  exact ⟨hok, hs, fun _ => rfl⟩
theorem deed_leave {b : Book} (hs : safeB b = true) (n : Str) : Deed b (leaveB b n).1 (leaveB b n).2 := by
 have hok := safe_ok hs
 by_cases h0 : (leaveB b n).2 = 0
 ·exact ⟨leave_ok hok, leave_safe h0 hs, fun h => absurd h0 h⟩
 ·have e : (leaveB b n).1 = b := by
   have := leave_book b n
   rw [if_neg h0] at this
   split at this
   ·rename_i h1
    exfalso
    unfold leaveB at h1
    simp only [hok, Bool.true_eq_false, if_false] at h1
    split at h1 <;> cases h1
   ·exact this.symm
  rw [e]
  exact ⟨hok, hs, fun _ => rfl⟩
end
section
open Go.RowKit
attribute [local go_sem] S_toList S_size S_get
def DoesRes (w : World) (e : Ending) (w' : World) : Prop :=
 ∃ (T : List Str) (x1 a : Option Addr) (y1 c : Nat) (ds : List Do), e = .returned (.tuple #[.agg #[.slice x1 T.length y1, .slice none 0 0], .slice a ds.length c]) ∧ Ext w w' ∧ StrsAt w' x1 T ∧ safeB ⟨T, []⟩ = true ∧ DosAt w' a ds
def BkOwn (w : World) (base : Nat) (x1 x2 : Option Addr) (y1 y2 : Nat) (b : Book) : Prop := BookAt w x1 x2 b ∧ OwnL w base (.slice x1 b.things.length y1) b.things ∧ OwnBs w base (.slice x2 b.batches.length y2) b.batches
theorem BkOwn.ext {w w' : World} {base : Nat} {x1 x2 : Option Addr} {y1 y2 : Nat} {b : Book} (h : BkOwn w base x1 x2 y1 y2 b) (e : Ext w w') : BkOwn w' base x1 x2 y1 y2 b := ⟨h.1.ext e, h.2.1.ext e, h.2.2.ext e⟩
theorem BkOwn.stored {w : World} {base : Nat} {x1 x2 : Option Addr} {y1 y2 : Nat} {b : Book} (h : BkOwn w base x1 x2 y1 y2 b) {X : Nat} {l : List Value} (hr : Rec w X 26 l) (hl : NoStr l) (i : Nat) (u : Value) : BkOwn (w.setCell ⟨X, i, none⟩ u) base x1 x2 y1 y2 b :=
 ⟨h.1.box hr hl, h.2.1.stored hr rfl _ _, h.2.2.stored hr rfl rfl _ _⟩
theorem BkOwn.again {w w' : World} {base : Nat} {x1 x2 : Option Addr} {y1 y2 : Nat} {b : Book} (h : BkOwn w base x1 x2 y1 y2 b) (h1 : OwnL w' base (.slice x1 b.things.length y1) b.things) (h2 : OwnBs w' base (.slice x2 b.batches.length y2) b.batches) : BkOwn w' base x1 x2 y1 y2 b :=
 ⟨own_book_at h1 h.1.1.short h2 h.1.2.1, h1, h2⟩
theorem BkOwn.beside {w w' : World} {base base' : Nat} {x1 x2 : Option Addr} {y1 y2 : Nat} {b : Book} (h : BkOwn w base x1 x2 y1 y2 b) {v : Value} {ds : List Do} (hd : DosOwn w base' v ds) (g : w.grownBy w' v.ownBlock) : BkOwn w' base x1 x2 y1 y2 b := by
 obtain ⟨rs, r1, _⟩ := hd
 have hne := fun k c => do_ne r1 9 rfl k c
 refine h.again (h.2.1.keep g hne) ?_
 obtain ⟨rs', k1, k2⟩ := h.2.2
 refine ⟨rs', World.ownsRow.kept k1 g ?_, k2.keep g hne⟩
 cases hv : (Value.slice x2 b.batches.length y2).ownBlock with
 | none => exact Or.inl rfl
 | some k =>
  refine Or.inr fun e => ?_
  rcases k1.2 with ⟨e1, _⟩ | ⟨g', cap, cur, e1, _, hg', _⟩
  ·rw [e1] at hv; simp [Value.ownBlock] at hv
  ·rw [e1] at hv
   have e' : g' = k := by simpa [Value.ownBlock] using hv
   subst e'
   exact do_ne r1 73 rfl g' cur e.symm hg'
theorem BkOwn.read {w w' : World} {base R q : Nat} {x1 x2 : Option Addr} {y1 y2 : Nat} {b : Book} (h : BkOwn w base x1 x2 y1 y2 b) (hR : R < base) (g : w.grownBy w' (some R)) (_ : Rd w R q) : BkOwn w' base x1 x2 y1 y2 b := by
 refine h.again (own_age h.2.1 g (fun k e => by cases e; exact hR)) ?_
 obtain ⟨rs', k1, k2⟩ := h.2.2
 refine ⟨rs', own_age k1 g (fun k e => by cases e; exact hR), k2.1, fun i r x hr hx => ?_⟩
 obtain ⟨e1, e2, e3, e4, e5, e6⟩ := k2.2 i r x hr hx
 exact ⟨e1, e2, own_age e3 g (fun k e => by cases e; exact hR), e4, own_age e5 g (fun k e => by cases e; exact hR), e6⟩
theorem BkOwn.low {w : World} {base base' : Nat} {x1 x2 : Option Addr} {y1 y2 : Nat} {b : Book} (h : BkOwn w base x1 x2 y1 y2 b) (hb : base' ≤ base) : BkOwn w base' x1 x2 y1 y2 b := ⟨h.1, h.2.1.low hb, h.2.2.low hb⟩
structure DT (w wr : World) (T : List Str) (x1 : Option Addr) (y1 R B5 q : Nat) (b : Book) (z1 z2 : Option Addr) (d1 d2 : Nat) (o : Value) (ds : List Do) : Prop where
 ext : Ext w wr
 rd : Rd wr R q
 rr : Rec wr w.heap.size 26 [.slice none 0 0, .slice none 0 0]
 rb : Rec wr B5 26 [.slice x1 T.length y1, .slice none 0 0]
 t : StrsAt wr x1 T
 ts : OwnL wr (R + 1) (.slice x1 T.length y1) T
 rx : Rec wr (B5 + 1) 26 [.slice z1 b.things.length d1, .slice z2 b.batches.length d2]
 bk : BkOwn wr (R + 1) z1 z2 d1 d2 b
 ok : bookOk b = true
 dos : DosOwn wr (B5 + 2) o ds
 hR : w.heap.size + 1 = R
 hB : R < B5
theorem DT.next {w wr wl : World} {T : List Str} {x1 : Option Addr} {y1 R B5 q : Nat} {b : Book} {z1 z2 : Option Addr} {d1 d2 : Nat} {o : Value} {ds : List Do} (h : DT w wr T x1 y1 R B5 q b z1 z2 d1 d2 o ds) (e : Ext wr wl) : DT w wl T x1 y1 R B5 q b z1 z2 d1 d2 o ds :=
 ⟨Ext.tr h.ext e, h.rd.ext e, h.rr.ext e, h.rb.ext e, h.t.ext e, h.ts.ext e, h.rx.ext e, h.bk.ext e, h.ok, h.dos.ext e, h.hR, h.hB⟩
theorem DT.read {w wr wl : World} {T : List Str} {x1 : Option Addr} {y1 R B5 q q' : Nat} {b : Book} {z1 z2 : Option Addr} {d1 d2 : Nat} {o : Value} {ds : List Do} (h : DT w wr T x1 y1 R B5 q b z1 z2 d1 d2 o ds) (g : wr.grownBy wl (some R)) (hr : Rd wl R q') : DT w wl T x1 y1 R B5 q' b z1 z2 d1 d2 o ds := by
 have h1 := h.hR
 have h2 := h.hB
 have h3 := own_age h.ts g (fun k e => by cases e; omega)
 refine ⟨⟨g.os.trans h.ext.os, g.tape.trans h.ext.tape, g.output.trans h.ext.output, Nat.le_trans h.ext.size g.size, fun k hk => ?_⟩, hr, h.rr.kept g (by simp; omega), h.rb.kept g (by simp; omega), h.t.on h.rd g, h3, h.rx.kept g (by simp; omega), h.bk.read (by omega) g h.rd, h.ok, h.dos.age g (by omega), h.hR, h.hB⟩
 rw [g.block k (by have := h.ext.size; omega) (by simp; omega)]
 exact h.ext.block k hk
theorem DT.put {w wr : World} {T : List Str} {x1 : Option Addr} {y1 R B5 q : Nat} {b b' : Book} {z1 z2 z1' z2' : Option Addr} {d1 d2 d1' d2' : Nat} {o : Value} {ds : List Do} (h : DT w wr T x1 y1 R B5 q b z1 z2 d1 d2 o ds) (hk : BkOwn wr (R + 1) z1' z2' d1' d2' b') (hok : bookOk b' = true) :
  DT w ((wr.setCell ⟨B5 + 1, 0, none⟩ (.slice z1' b'.things.length d1')).setCell ⟨B5 + 1, 1, none⟩ (.slice z2' b'.batches.length d2')) T x1 y1 R B5 q b' z1' z2' d1' d2' o ds := by
 have h1 := h.hR
 have h2 := h.hB
 have g1 := gb_store wr (B5 + 1) 0 (.slice z1' b'.things.length d1')
 have g2 := gb_store (wr.setCell ⟨B5 + 1, 0, none⟩ (.slice z1' b'.things.length d1')) (B5 + 1) 1 (.slice z2' b'.batches.length d2')
 have r1 := h.rx.set 0 (.slice z1' b'.things.length d1')
 exact ⟨(h.ext.setCell (by simp; omega) _).setCell (by simp; omega) _, (h.rd.gb g1 (fun k e => by cases e; omega)).gb g2 (fun k e => by cases e; omega), (h.rr.kept g1 (by simp; omega)).kept g2 (by simp; omega), (h.rb.kept g1 (by simp)).kept g2 (by simp),
  (h.t.box h.rx noStr2 _ _).box r1 noStr2 _ _, (h.ts.stored h.rx rfl _ _).stored r1 rfl _ _, r1.set 1 _, (hk.stored h.rx noStr2 _ _).stored r1 noStr2 _ _, hok, (h.dos.age g1 (by omega)).age g2 (by omega), h.hR, h.hB⟩
theorem DT.more {w wr wl : World} {T : List Str} {x1 : Option Addr} {y1 R B5 q : Nat} {b : Book} {z1 z2 : Option Addr} {d1 d2 : Nat} {o o' : Value} {ds ds' : List Do} (h : DT w wr T x1 y1 R B5 q b z1 z2 d1 d2 o ds) (g : wr.grownBy wl o.ownBlock) (hd : DosOwn wl (B5 + 2) o' ds') : DT w wl T x1 y1 R B5 q b z1 z2 d1 d2 o' ds' := by
 have h1 := h.hR
 have h2 := h.hB
 have hl := fun k e => h.dos.lt k e
 obtain ⟨rs, r1, _⟩ := h.dos
 have hne := fun k c => do_ne r1 9 rfl k c
 have h3 := h.ts.keep g hne
 refine ⟨h.ext.grown g h.ext.size (fun k e => by have := hl k e; omega), h.rd.gb g (fun k e => by have := hl k e; omega), h.rr.kept g (fun e => by have := hl _ e.symm; omega), h.rb.kept g (fun e => by have := hl _ e.symm; omega), ?_, h3, h.rx.kept g (fun e => by have := hl _ e.symm; omega), h.bk.beside h.dos g, h.ok, hd, h.hR, h.hB⟩
 obtain ⟨_, _, e, hs⟩ := h3.at' h.t.short
 simp only [Value.slice.injEq] at e
 obtain ⟨rfl, _⟩ := e
 exact hs
end
section
open Go.RowKit
attribute [local go_sem] S_toList S_size S_get
set_option maxRecDepth 100000 in
set_option maxHeartbeats 2000000 in
theorem drawDoes_any (a : Option Addr) (n c : Nat) (w : World) (h : BytesAt w a n) (hn : n ≤ c) (hc : c ≤ 140737488355328) :
  Calls Qry.prog 7 #[.slice a n c] w fun e w' => DoesRes w e w' := by
 have hby : BytesAt (w.alloc (.cells #[.slice none 0 0, .slice none 0 0] 26)) a n := h.gb (gb_none (ext_alloc _ _)) (fun b o e hp => by simp)
 go_enter Qry.func7, Tryz.ntmps7
 go_wp2_with fail
 refine (l1Open_any a n c _ hby hn hc).mono ?_
 rintro e w1 ⟨rfl, hE1, hr1⟩
 have hz1 := hr1.lt
 simp at hr1 hz1
 have HRR : Hid (Rec w1 w.heap.size 26 [.slice none 0 0, .slice none 0 0]) := (Rec.new w _ _).ext hE1
 have HE1 := hid (Ext.tr (ext_alloc _ _) hE1)
 clear hE1 hby h
 go_wp2_with fail
 refine (l5Base_any (w.heap.size + 1) 0 w1 hr1 (by omega)).mono ?_
 rintro e w2 ⟨v, T, rfl, hg2, hr2, ho2, hsub⟩
 obtain ⟨x1, y1, rfl⟩ := own_sl ho2
 have hTs := sub_short hsub kegs_short
 obtain ⟨_, _, ee, hT⟩ := ho2.at' hTs
 simp only [Value.slice.injEq] at ee
 obtain ⟨rfl, _, rfl⟩ := ee
 have hz2 := hg2.size
 have HOKT := hid (kegs_ok hsub)
 have HDT : Hid (DT w (((w2.alloc (.cells #[.slice x1 T.length y1, .slice none 0 0] 26)).alloc (.cells #[.slice x1 T.length y1, .slice none 0 0] 26)).alloc (.cells #[] 31)) T x1 y1 (w.heap.size + 1) w2.heap.size (0 + 5) ⟨T, []⟩ x1 none y1 0 (.slice (some ⟨w2.heap.size + 1 + 1, 0, none⟩) 0 0) []) := by
  have eA := ext_alloc w2 (.cells #[.slice x1 T.length y1, .slice none 0 0] 26)
  have eB := ext_alloc (w2.alloc (.cells #[.slice x1 T.length y1, .slice none 0 0] 26)) (.cells #[.slice x1 T.length y1, .slice none 0 0] 26)
  have eC := ext_alloc ((w2.alloc (.cells #[.slice x1 T.length y1, .slice none 0 0] 26)).alloc (.cells #[.slice x1 T.length y1, .slice none 0 0] 26)) (.cells #[] 31)
  have eE := Ext.tr eA (Ext.tr eB eC)
  have hT' : StrsAt w2 x1 T := hT
  have hob : OwnBs w2 (w.heap.size + 1 + 1) (.slice none 0 0) [] := OwnBs.nil _ _
  have ho : OwnL w2 (w.heap.size + 1 + 1) (.slice x1 T.length y1) T := ho2.low (by omega)
  have hbk0 : BkOwn w2 (w.heap.size + 1 + 1) x1 none y1 0 ⟨T, []⟩ := ⟨⟨hT', by simp, fun i hi => by simp at hi⟩, ho, hob⟩
  refine ⟨Ext.tr (on_new HE1.out (by omega) hg2) eE, hr2.ext eE, (HRR.out.kept hg2 (by simp)).ext eE, (Rec.new w2 _ _).ext (Ext.tr eB eC), hT'.ext eE, ho.ext eE, ?_, hbk0.ext eE, HOKT.out, ?_, rfl, by omega⟩
  ·have r := (Rec.new (w2.alloc (.cells #[.slice x1 T.length y1, .slice none 0 0] 26)) 26 [.slice x1 T.length y1, .slice none 0 0]).ext eC
   simpa using r
  ·have r := DosOwn.made ((w2.alloc (.cells #[.slice x1 T.length y1, .slice none 0 0] 26)).alloc (.cells #[.slice x1 T.length y1, .slice none 0 0] 26)) (w2.heap.size + 2) (by simp)
   simpa using r
 have HSF : Hid (safeB ⟨T, []⟩ = true) := by
  show _ = _
  refine (safe_iff HOKT.out).2 ⟨[], fun x hx => by simp [namesOf] at hx, fun x hx => by simp at hx, List.nodup_nil, fun l x r e => by simp at e⟩
 clear hg2 hr2 ho2 hT HRR HE1 hr1 hTs hsub HOKT
 have hBw : w.heap.size + 1 < w2.heap.size := by omega
 go_wp2_with fail
 generalize ((w2.alloc (.cells #[.slice x1 T.length y1, .slice none 0 0] 26)).alloc (.cells #[.slice x1 T.length y1, .slice none 0 0] 26)).alloc (.cells #[] 31) = w3 at HDT ⊢
 generalize w2.heap.size = B5 at HDT hBw ⊢
 refine (pick_any (w.heap.size + 1) (0 + 5) 40 w3 HDT.out.rd (by omega) (by omega) (by omega)).mono ?_
 rintro e w4 ⟨np, rfl, hnp, hg4, hr4⟩
 have HD4 := hid (HDT.out.read hg4 hr4)
 clear HDT hg4 hr4 hz1 hz2
 go_wp2_with fail
 go_loopw [7, 8] (fun o i wr => ∃ (m : Nat) (b : Book) (z1 z2 : Option Addr) (d1 d2 : Nat) (ds : List Do), m ≤ 39 ∧ i = .int .i64 m ∧ ds.length + m ≤ 39 ∧ DT w wr T x1 y1 (w.heap.size + 1) B5 (6 + 61 * (39 - m)) b z1 z2 d1 d2 o ds) (fun _ i _ => (intOf i).toNat)
 case atStart => exact ⟨np, ⟨T, []⟩, x1, none, y1, 0, [], by omega, rfl, by simp; omega, ⟨HD4.out.ext, HD4.out.rd.mono (by omega), HD4.out.rr, HD4.out.rb, HD4.out.t, HD4.out.ts, HD4.out.rx, HD4.out.bk, HD4.out.ok, HD4.out.dos, HD4.out.hR, HD4.out.hB⟩⟩
 case round =>
  clear HD4
  obtain ⟨m, b, z1, z2, d1, d2, ds, hm, rfl, hds, hdt⟩ := hrel
  have HD := hid hdt
  have HDL := hid hds
  obtain ⟨ao, co, eo⟩ := hdt.dos.len
  subst eo
  have c0 := hdt.rx.cell (i := 0) rfl
  have c1 := hdt.rx.cell (i := 1) rfl
  clear hdt hds
  by_cases hm0 : 0 < m
  ·have hmi : (0 : Int) < (m : Int) := by omega
   go_wp2_with fail
   refine (l5Does_own (w.heap.size + 1) (6 + 61 * (39 - m)) b z1 z2 d1 d2 wr HD.out.rd (by omega) HD.out.bk.1 (DoesSm.ok HD.out.ok)).mono ?_
   rintro e w5 ⟨kind, name, L, a', c', rfl, hg5, hr5, ⟨hoL, hsL⟩, hnm⟩
   have hz5 : B5 + 2 ≤ wr.heap.size := by
    have := HD.out.rx.lt; omega
   have eD := ext_alloc w5 (.cells #[.int .i64 (kind : Int), .string (S name), .slice a' L.length c'] 31)
   have HD5 := hid ((HD.out.read hg5 hr5).next eD)
   have HRD : Hid (Rec (w5.alloc (.cells #[.int .i64 (kind : Int), .string (S name), .slice a' L.length c'] 31)) w5.heap.size 31 [.int .i64 (kind : Int), .string (S name), .slice a' L.length c']) := Rec.new w5 _ _
   have HOL := hid ((hoL.low (base' := B5 + 2) hz5).ext eD)
   have hzD : B5 + 2 ≤ w5.heap.size := Nat.le_trans hz5 hg5.size
   clear hg5 hr5 hoL eD HD
   obtain ⟨_, _, ea, hLs⟩ := HOL.out.at' hsL
   simp only [Value.slice.injEq] at ea
   obtain ⟨rfl, _, rfl⟩ := ea
   replace c0 := HD5.out.rx.cell (i := 0) rfl
   replace c1 := HD5.out.rx.cell (i := 1) rfl
   have e0 := HRD.out.cell (i := 0) rfl
   have e1 := HRD.out.cell (i := 1) rfl
   have e2 := HRD.out.cell (i := 2) rfl
   go_wp2_with fail
   generalize w5.alloc (.cells #[.int .i64 (kind : Int), .string (S name), .slice a' L.length c'] 31) = w6 at *
   generalize w5.heap.size = D at *
   refine (l5Step_own b kind name L z1 z2 _ d1 d2 _ w6 HD5.out.bk.1 hnm hLs HD5.out.ok).mono ?_
   rintro e w7 ⟨b', z1', z2', d1', d2', rfl, hE7, hbk7, hok7⟩
   have hz6 := HRD.out.lt
   have HD7 := hid ((HD5.out.next hE7).put (BkOwn.low (base' := w.heap.size + 1 + 1) ⟨hbk7.1, hbk7.2.1, hbk7.2.2⟩ (by omega)) hok7)
   have hrx7 := HD5.out.rx.ext hE7
   have hz7 := (HRD.out.ext hE7).lt
   have q0 := hrx7.cell (i := 0) rfl
   have q1 := hrx7.cell (i := 1) rfl
   have f0 := hrx7.frozen 0
   have f1 := hrx7.frozen 1
   have g1 := gb_store w7 (B5 + 1) 0 (.slice z1' b'.things.length d1')
   have g2 := gb_store (w7.setCell ⟨B5 + 1, 0, none⟩ (.slice z1' b'.things.length d1')) (B5 + 1) 1 (.slice z2' b'.batches.length d2')
   have HRD7 := hid (((HRD.out.ext hE7).kept g1 (by simp; omega)).kept g2 (by simp; omega))
   have HOL7 := hid (own_age (own_age (HOL.out.ext hE7) g1 (fun k e => by cases e; omega)) g2 (fun k e => by cases e; omega))
   clear hE7 hbk7 hrx7 g1 g2 HD5 HRD HOL c0 c1 e0 e1 e2 hLs
   have e0 := HRD7.out.cell (i := 0) rfl
   have e1 := HRD7.out.cell (i := 1) rfl
   have e2 := HRD7.out.cell (i := 2) rfl
   have hz8 := HRD7.out.lt
   have eN := ext_alloc ((w7.setCell ⟨B5 + 1, 0, none⟩ (.slice z1' b'.things.length d1')).setCell ⟨B5 + 1, 1, none⟩ (.slice z2' b'.batches.length d2')) (.cells #[.int .i64 (kind : Int), .string (S name), .slice a' L.length c'] 31)
   have HD8 := hid (HD7.out.next eN)
   have HM : Hid (DOwn (((w7.setCell ⟨B5 + 1, 0, none⟩ (.slice z1' b'.things.length d1')).setCell ⟨B5 + 1, 1, none⟩ (.slice z2' b'.batches.length d2')).alloc (.cells #[.int .i64 (kind : Int), .string (S name), .slice a' L.length c'] 31)) (B5 + 2) ⟨kind, name, .slice a' L.length c'⟩ ⟨kind, name, L⟩) := ⟨rfl, rfl, hnm, OwnL.ext HOL7.out eN, hsL⟩
   have HRS : Hid (∀ j u, (dcells [⟨kind, name, .slice a' L.length c'⟩])[j]? = some u → ∃ ad, some (⟨w7.heap.size, 0, none⟩ : Addr) = some ad ∧ (((w7.setCell ⟨B5 + 1, 0, none⟩ (.slice z1' b'.things.length d1')).setCell ⟨B5 + 1, 1, none⟩ (.slice z2' b'.batches.length d2')).alloc (.cells #[.int .i64 (kind : Int), .string (S name), .slice a' L.length c'] 31)).cell? (ad.add j) = some u) := by
    have h := one_do ((w7.setCell ⟨B5 + 1, 0, none⟩ (.slice z1' b'.things.length d1')).setCell ⟨B5 + 1, 1, none⟩ (.slice z2' b'.batches.length d2')) ⟨kind, name, .slice a' L.length c'⟩
    have e8 : ((w7.setCell ⟨B5 + 1, 0, none⟩ (.slice z1' b'.things.length d1')).setCell ⟨B5 + 1, 1, none⟩ (.slice z2' b'.batches.length d2')).heap.size = w7.heap.size := by simp [World.setCell]
    rw [e8] at h
    exact h
   clear eN HD7 HOL7
   go_wp2_with (at_builtin; refine wpList_do rfl _ _ rfl rfl HD8.out.dos rfl HRS.out HM.out ?q1 ?q2 ?_)
   case q1 => have := HDL.out; omega
   case q2 => simp; omega
   intro v' w9 hd9 hg9
   have HD9 := hid (HD8.out.more hg9 hd9)
   clear hd9 hg9 HD8 HM e0 e1 e2
   go_wp2
   go_roundw
   case rel => exact ⟨m - 1, b', z1', z2', d1', d2', ds ++ [⟨kind, name, L⟩], by omega, by go_num, by have := HDL.out; simp; omega, ⟨HD9.out.ext, HD9.out.rd.mono (by omega), HD9.out.rr, HD9.out.rb, HD9.out.t, HD9.out.ts, HD9.out.rx, HD9.out.bk, HD9.out.ok, HD9.out.dos, HD9.out.hR, HD9.out.hB⟩⟩
   case measure => simp [intOf]; omega
  ·have hmi : ¬ ((0 : Int) < (m : Int)) := by omega
   have b0 := HD.out.rb.cell (i := 0) rfl
   have b1 := HD.out.rb.cell (i := 1) rfl
   have t0 := HD.out.rr.cell (i := 0) rfl
   have t1 := HD.out.rr.cell (i := 1) rfl
   have f0 := HD.out.rr.frozen 0
   have f1 := HD.out.rr.frozen 1
   obtain ⟨ao', co', eo', hda⟩ := ((HD.out.dos.age (gb_store wr w.heap.size 0 (.slice x1 T.length y1)) (by have := HD.out.hB; omega)).age (gb_store (wr.setCell ⟨w.heap.size, 0, none⟩ (.slice x1 T.length y1)) w.heap.size 1 (.slice none 0 0)) (by have := HD.out.hB; omega)).at (by have := HDL.out; omega)
   simp only [Value.slice.injEq] at eo'
   obtain ⟨rfl, _, rfl⟩ := eo'
   have HDA := hid hda
   clear hda c0 c1
   go_wp2
   refine bodyPost_ret (v := .tuple #[.agg #[.slice x1 T.length y1, .slice none 0 0], .slice ao ds.length co]) (by simp [results, Tryz.results7, go_sem, t0, t1]) rfl ⟨T, x1, ao, y1, co, ds, rfl, ?_, ?_, HSF.out, HDA.out⟩
   ·exact (HD.out.ext.setCell (by simp) _).setCell (by simp) _
   ·exact (HD.out.t.box HD.out.rr noStr2 _ _).box (HD.out.rr.set 0 _) noStr2 _ _
end
end Go.Proofs.YtdafpnpfcmgfcaaGreatDoor
