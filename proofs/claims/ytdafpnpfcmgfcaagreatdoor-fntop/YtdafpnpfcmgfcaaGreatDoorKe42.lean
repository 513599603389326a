/- What is done: asking. A range over a function whose iterator keeps its state in cells of its own: one law for the statement. The program's goers: an iterator with state of its own. -/
import Derived.Test.YtdafpnpfcmgfcaaGreatDoorKe41
import Derived.Test.YtdafpnpfcmgfcaaGreatDoorKe39
import Derived.RangeFuncBox
import Derived.RangeFuncLeaves
import Derived.Shelf.Abstract
import Derived.OwnWalkIn
import Derived.TacticsInMore
import Derived.LoopNIn
import Derived.LoopIn
import Derived.Test.YtdafpnpfcmgfcaaGreatDoorKe35
namespace Go.Proofs.YtdafpnpfcmgfcaaGreatDoor
section
open Go.RowKit
attribute [local go_sem] S_toList S_size S_get
set_option maxRecDepth 100000 in
set_option maxHeartbeats 2000000 in
theorem doneA_any (b : Book) (n : Str) (things : List Str) (a1 a2 a3 : Option Addr) (c1 c2 c3 : Nat) (w : World) (hb : BookAt w a1 a2 b) (hn : StrsAt w a3 things) (hok : bookOk b = true) (hh : hereB b n = true) (hth : namesOk things (b.at (whereB b n)).needs = true) :
  Calls Qry.prog 80 #[.agg #[.slice a1 b.things.length c1, .slice a2 b.batches.length c2], .iface 75 (.agg #[.string (S n), .slice a3 things.length c3])] w fun e w' => OutB w (giveB b (whereB b n) things) e w' := by
 have HKG : Hid (keptL (nthB b.batches (whereB b n)).needs ((nthB b.batches (whereB b n)).has ++ things) = things.foldl insS (nthB b.batches (whereB b n)).has) := by
  have h := each_at (ok_iff.1 hok) (where_lt hh)
  exact kept_give (namesOk_iff.1 h.1).1 h.2 hth
 have h8 := namesOk_len hth
 have h9 := ok_lens hok (where_lt hh)
 have hlA : (nthB b.batches (whereB b n)).has.length + things.length ≤ 16 := by
  have e : b.at (whereB b n) = nthB b.batches (whereB b n) := rfl
  rw [e] at h8 h9
  omega
 clear h8 h9 hth
 have hk := where_lt hh
 have HW := hid (ok_where hok hh)
 have h5 := ok_five hok
 have mW := mWhoA
 have n1 := asNoAE
 have y1' := asYesA
 clear hh
 go_enter Qry.func80, Tryz.ntmps80
 go_wp2_with fail
 refine (copiedBook_any b _ _ _ _ _ (hb.ext (ext_two _ _ _))).mono ?_
 rintro e w1 ⟨v1, v2, rs, rfl, hE1, hOB1⟩
 obtain ⟨x1, y1, x2, y2, rfl, rfl, hat1⟩ := hOB1.at (ok_short hok)
 have HR2 := hid (rec_second (l := [.slice none 0 0, .slice none 0 0]) hE1)
 have HE1 := hid (Ext.tr (ext_two _ _ _) hE1)
 have HAT1 := hid hat1
 have HOB1 : Hid (OB w1 w.heap.size _ _ rs b) := hOB1.low (by simp; omega)
 have hz1 : w.heap.size + 2 ≤ w1.heap.size := by have := hE1.size; simp at this; omega
 clear hE1 hOB1 hat1
 go_wp2_with fail
 have HEc := hid (ext_alloc w1 (.cells #[.slice x1 b.things.length y1, .slice x2 b.batches.length y2] 26))
 have HRc : Hid (Rec _ w1.heap.size 26 [.slice x1 b.things.length y1, .slice x2 b.batches.length y2]) := Rec.new w1 _ _
 have HO2 := hid (HOB1.out.ext HEc.out)
 have HAT2 := hid (HAT1.out.ext HEc.out)
 have HR3 := hid (HR2.out.ext HEc.out)
 have HE2 := hid (Ext.tr HE1.out HEc.out)
 have hzc : w1.heap.size < (w1.alloc (.cells #[.slice x1 b.things.length y1, .slice x2 b.batches.length y2] 26)).heap.size := by simp
 generalize w1.alloc (.cells #[.slice x1 b.things.length y1, .slice x2 b.batches.length y2] 26) = wc at *
 clear HR2 HEc HOB1 HAT1 HE1
 refine wp_region_T (fun w' => w'.cell? ⟨w1.heap.size, 0, none⟩ = some (.slice x1 b.things.length y1) ∧ w'.cell? ⟨w1.heap.size, 1, none⟩ = some (.slice x2 b.batches.length y2)) 8 (by kernel_rfl) ⟨HRc.out.cell rfl, HRc.out.cell rfl⟩ (fun hS => ?_)
 refine tk 0 hS ?_
 try simp only [List.set]
 refine tk 1 hS ?_
 try simp only [List.set]
 refine wpT_one 2 rfl (by kernel_rfl) rfl rfl (fun K hK => ?_)
 go_simp
 refine (who_any n _).mono ?_
 rintro e w2 ⟨rfl, hE2⟩
 go_wp2_with fail
 refine hK.out _ _ ⟨hE2.keep hS.1, hE2.keep hS.2⟩ (fun hS1 => ?_)
 clear hK hS
 have hS := hS1
 clear hS1
 try clear K
 try simp only [put_some, List.set]
 refine wpT_one 3 rfl (by kernel_rfl) rfl rfl (fun K hK => ?_)
 go_simp
 refine (placeOf_any b n _ _ _ _ _ ((HAT2.out.ext (ext_drewN _ 1)).ext hE2) hok).mono ?_
 rintro e w3 ⟨rfl, hE3⟩
 go_wp2_with fail
 refine hK.out _ _ ⟨hE3.keep hS.1, hE3.keep hS.2⟩ (fun hS1 => ?_)
 clear hK hS
 have hS := hS1
 clear hS1
 try clear K
 try simp only [put_some, List.set]
 refine tk 4 hS ?_
 try simp only [List.set]
 refine tk 5 hS ?_
 try simp only [List.set]
 refine tk 6 hS ?_
 try simp only [List.set]
 refine tk 7 hS ?_
 try simp only [List.set]
 refine wpT_last rfl (by kernel_rfl) (by kernel_rfl) rfl (fun K hK => ?_)
 go_simp
 refine hK.out _ _ ?_
 clear hK hS
 have HE3 : Hid (Ext wc w3) := Ext.tr (ext_drewN _ 1) (Ext.tr hE2 hE3)
 have HO3 := hid (HO2.out.ext HE3.out)
 have HAT3 := hid (HAT2.out.ext HE3.out)
 have HR3' := hid (HR3.out.ext HE3.out)
 have HRc3 := hid (HRc.out.ext HE3.out)
 have HE4 := hid (Ext.tr HE2.out HE3.out)
 have q0 := HRc3.out.cell (i := 0) rfl
 have q1 := HRc3.out.cell (i := 1) rfl
 have hz3 := HE3.out.size
 clear hE2 hE3 HE3 HO2 HR3 HRc HE2 HAT2
 rw [HW.out]
 clear HW
 generalize hke : whereB b n = k at *
 have HKE := hid hke
 clear hke
 obtain ⟨g, gc, cur, he, -⟩ := own_open (by have h := HO3.out.ob; rw [HO3.out.ow.1] at h; exact h) (by omega : 0 < b.batches.length)
 simp only [Value.slice.injEq, true_and] at he
 obtain ⟨rfl, rfl⟩ := he
 have hzw : wc.heap.size ≤ (w3.alloc (.cells #[.string (S n), .slice a3 things.length c3] 75)).heap.size := by simp; omega
 have q1b := (ext_alloc w3 (.cells #[.string (S n), .slice a3 things.length c3] 75)).keep q1
 go_wp2_with fail
 clear q0 q1 q1b
 replace HO3 := hid (HO3.out.ext (ext_alloc w3 (.cells #[.string (S n), .slice a3 things.length c3] 75)))
 replace HAT3 := hid (HAT3.out.ext (ext_alloc w3 (.cells #[.string (S n), .slice a3 things.length c3] 75)))
 replace HR3' := hid (HR3'.out.ext (ext_alloc w3 (.cells #[.string (S n), .slice a3 things.length c3] 75)))
 replace HRc3 := hid (HRc3.out.ext (ext_alloc w3 (.cells #[.string (S n), .slice a3 things.length c3] 75)))
 replace HE4 := hid (Ext.tr HE4.out (ext_alloc w3 (.cells #[.string (S n), .slice a3 things.length c3] 75)))
 have HRw : Hid (Rec _ w3.heap.size 75 [.string (S n), .slice a3 things.length c3]) := Rec.new w3 _ _
 have hzb : w3.heap.size < (w3.alloc (.cells #[.string (S n), .slice a3 things.length c3] 75)).heap.size := by simp
 generalize w3.alloc (.cells #[.string (S n), .slice a3 things.length c3] 75) = wb at *
 obtain ⟨bb, oo, hbo, -, z1, d1, z2, d2, -, p1, p2, s1, s2⟩ := HAT3.out.2.2 k hk
 cases hbo
 rw [Nat.zero_add] at p1 p2
 have hgl : g < wb.heap.size := cell_lt p1
 have hgb : w.heap.size ≤ g := (HO3.out.ob.lt g rfl).1
 have hn1 : w1.heap.size ≠ g := fun e => HRc3.out.not_row rfl HO3.out.ob (by rw [e]; rfl)
 have hn2 : w.heap.size + 1 ≠ g := fun e => HR3'.out.not_row rfl HO3.out.ob (by rw [e]; rfl)
 have hn3 : w3.heap.size ≠ g := fun e => HRw.out.not_row rfl HO3.out.ob (by rw [e]; rfl)
 have p1d := p1
 refine wp_region_T (fun w' => w'.cell? ⟨w3.heap.size, 1, none⟩ = some (.slice a3 things.length c3) ∧ w'.cell? ⟨g, k * 3 + 1, none⟩ = some (.slice z1 (nthB b.batches k).has.length d1) ∧ w'.cell? ⟨g, k * 3 + 2, none⟩ = some (.slice z2 (nthB b.batches k).needs.length d2)) 16 (by kernel_rfl) ⟨HRw.out.cell rfl, p1, p2⟩ (fun hS => ?_)
 refine tk 0 hS ?_
 try simp only [List.set]
 refine tk 1 hS ?_
 try simp only [List.set]
 refine tk 2 hS ?_
 try simp only [List.set]
 refine tk 3 hS ?_
 try simp only [List.set]
 refine tk 4 hS ?_
 try simp only [List.set]
 refine tk 5 hS ?_
 try simp only [List.set]
 refine tk 6 hS ?_
 try simp only [List.set]
 refine tk 7 hS ?_
 try simp only [List.set]
 refine tk 8 hS ?_
 try simp only [List.set]
 refine tk 9 hS ?_
 try simp only [List.set]
 refine tk 10 hS ?_
 try simp only [List.set]
 refine wpT_one 11 rfl (by kernel_rfl) rfl rfl (fun K hK => ?_)
 go_simp
 refine hK.out _ _ ⟨(ext_alloc _ _).keep hS.1, (ext_alloc _ _).keep hS.2.1, (ext_alloc _ _).keep hS.2.2⟩ (fun hS1 => ?_)
 clear hK hS
 have hS := hS1
 clear hS1
 try clear K
 try simp only [put_some, List.set]
 have hE5 : Ext wb ((wb.alloc (.cells #[.slice z1 (nthB b.batches k).has.length d1, .slice a3 things.length c3] 23)).drew) := Ext.tr (ext_alloc _ _) (ext_drewN _ 1)
 have v0 : ((wb.alloc (.cells #[.slice z1 (nthB b.batches k).has.length d1, .slice a3 things.length c3] 23)).drew).cell? ⟨wb.heap.size, 0, none⟩ = some (.slice z1 (nthB b.batches k).has.length d1) := box_cell (w := wb) (ext_drewN _ 1) (i := 0) rfl
 have v1 : ((wb.alloc (.cells #[.slice z1 (nthB b.batches k).has.length d1, .slice a3 things.length c3] 23)).drew).cell? ⟨wb.heap.size, 1, none⟩ = some (.slice a3 things.length c3) := box_cell (w := wb) (ext_drewN _ 1) (i := 1) rfl
 have hz5 : wb.heap.size ≤ ((wb.alloc (.cells #[.slice z1 (nthB b.batches k).has.length d1, .slice a3 things.length c3] 23)).drew).heap.size := hE5.size
 refine wpT_one 12 rfl (by kernel_rfl) rfl rfl (fun K hK => ?_)
 go_simp
 generalize (wb.alloc (.cells #[.slice z1 (nthB b.batches k).has.length d1, .slice a3 things.length c3] 23)).drew = w5 at *
 refine (concat_any _ _ _ _ _ _ _ _ _ v0 v1 (s1.ext hE5) ((hn.ext HE4.out).ext hE5) (by omega)).mono ?_
 rintro e w6 ⟨u6, rfl, hE6, ho6⟩
 have hsab := short_app s1.short hn.short (by omega)
 generalize (nthB b.batches k).has ++ things = ab at *
 obtain ⟨x6, y6, rfl, hs6⟩ := ho6.at' hsab
 clear hsab
 go_wp2_with fail
 refine hK.out _ _ ⟨hE6.keep hS.1, hE6.keep hS.2.1, hE6.keep hS.2.2⟩ (fun hS1 => ?_)
 clear hK hS
 have hS := hS1
 clear hS1
 try clear K
 try simp only [put_some, List.set]
 refine wpT_one 13 rfl (by kernel_rfl) rfl rfl (fun K hK => ?_)
 go_simp
 refine (kept_any _ _ _ _ _ _ _ ((s2.ext hE5).ext hE6) hs6).mono ?_
 rintro e w7 ⟨u, rfl, hE7, ho7⟩
 obtain ⟨x7, y7, rfl⟩ := own_sl ho7
 go_wp2_with fail
 refine hK.out _ _ ⟨hE7.keep hS.1, hE7.keep hS.2.1, hE7.keep hS.2.2⟩ (fun hS1 => ?_)
 clear hK hS
 have hS := hS1
 clear hS1
 try clear K
 try simp only [put_some, List.set]
 have hE17 : Ext wb w7 := Ext.tr hE5 (Ext.tr hE6 hE7)
 have hz6 : w5.heap.size ≤ w6.heap.size := hE6.size
 have hO7 := HO3.out.ext hE17
 have hu7 : ∀ v ∈ (Value.slice x1 b.things.length y1) :: allV rs, NE v (.slice x7 (keptL (nthB b.batches k).needs ab).length y7) := fun v hv => by
  rw [List.mem_cons] at hv
  rcases hv with rfl | hv
  ·exact NE.older HO3.out.ot ho7 (by omega)
  ·obtain ⟨M, hM⟩ := HO3.out.ow.memV hv
   exact NE.older hM ho7 (by omega)
 obtain ⟨rs1, hO8, -⟩ := hO7.putHas hk ho7 (short_kept s2.short) (by omega) hu7
 have f1 : w7.frozen? ⟨g, k * 3 + 1, none⟩ = false := by
  obtain ⟨-, -, f, -⟩ := hO7.bs.cells hk
  exact f
 have p1' := hE17.keep p1d
 have HO8 := hid hO8
 have gs1 := gb_store w7 g (k * 3 + 1) (.slice x7 (keptL (nthB b.batches k).needs ab).length y7)
 have HRC := hid ((HRc3.out.ext hE17).kept gs1 (fun e => hn1 (Option.some.inj e)))
 have HRR := hid ((HR3'.out.ext hE17).kept gs1 (fun e => hn2 (Option.some.inj e)))
 have HE8 : Hid (Ext w (w7.setCell ⟨g, k * 3 + 1, none⟩ (.slice x7 (keptL (nthB b.batches k).needs ab).length y7))) := (Ext.tr HE4.out hE17).setCell hgb _
 clear hO8 hO7 hu7 gs1 hE17 hE5 hE6 hE7 ho6 ho7 hs6 HO3 HAT3 HR3' HRc3 HE4 s1 s2 p1 p2 p1d v0 v1
 refine wpT_one 14 rfl (by kernel_rfl) rfl rfl (fun K hK => ?_)
 go_simp
 refine hK.out _ _ hS (fun hS1 => ?_)
 clear hK hS
 have hS := hS1
 clear hS1
 try clear K
 try simp only [put_some, List.set]
 refine tk 15 hS ?_
 try simp only [List.set]
 refine wpT_last rfl (by kernel_rfl) (by kernel_rfl) rfl (fun K hK => ?_)
 go_simp
 refine hK.out _ _ ?_
 clear hK hS
 generalize w7.setCell ⟨g, k * 3 + 1, none⟩ (.slice x7 (keptL (nthB b.batches k).needs ab).length y7) = w8 at *
 have q0 := HRC.out.cell (i := 0) rfl
 have q1 := HRC.out.cell (i := 1) rfl
 have t0 := HRR.out.cell (i := 0) rfl
 have t1 := HRR.out.cell (i := 1) rfl
 have g0 := HRR.out.frozen 0
 have g1 := HRR.out.frozen 1
 go_wp2_with fail
 exact done_end2 HE8.out HO8.out HRR.out (by simp [results, Tryz.results80, go_sem, t0, t1]) rfl (by rw [HKE.out, HKG.out]; rfl)
end
section
open Go.RowKit Go.Shelf
def stateT (t : TypeId) : Bool := t == 127 || t == 4 || t == 123
def isState : Obj → Bool
 | .cells _ t _ => stateT t
 | _ => false
structure Ab (n : Nat) (A B : World) : Prop where
 below : Below n A B
 same : ∀ (k : Nat) (o : Obj), A.heap[k]? = some o → isState o = false → B.heap[k]? = some o
structure Quieter (n : Nat) (A B : World) : Prop where
 below : Below n A B
 same : ∀ (k : Nat) (o : Obj), A.heap[k]? = some o → o.isCells = true → isState o = false → B.heap[k]? = some o
def Kp (A B : World) : Prop := ∀ (k : Nat) (o : Obj), A.heap[k]? = some o → isState o = true → B.heap[k]? = some o
theorem not_state {o : Obj} (h : o.isCells = false) : isState o = false := by
 cases o <;> first | rfl | (simp [Obj.isCells] at h)
theorem Ab.calm {n : Nat} {A B : World} (h : Ab n A B) : Quieter n A B := ⟨h.below, fun k o hk _ hs => h.same k o hk hs⟩
theorem Ab.of_ext {n : Nat} {A B : World} (h : Ext A B) (hn : n ≤ A.heap.size) : Ab n A B :=
 ⟨Below.mono h hn, fun k _ hk _ => (h.block k (Array.getElem?_eq_some_iff.1 hk).1).trans hk⟩
theorem Quieter.put {n : Nat} {W : World} {l : Nat} {o : Obj} (o' : Obj) (hn : n ≤ l) (h : W.heap[l]? = some o) (ho : o.isCells = false) : Quieter n W (W.putObj l o') := by
 have hlt := (Array.getElem?_eq_some_iff.1 h).1
 refine ⟨(Below.refl n W).grown (grownBy_putObj' W l o') (by omega) (fun k e => by cases e; exact hn), fun k o1 hk hc _ => ?_⟩
 have hne : k ≠ l := fun e => by subst e; rw [h] at hk; cases hk; rw [ho] at hc; cases hc
 exact (World.putObj_heap_other hne).trans hk
theorem Quieter.new {n : Nat} (W : World) (o : Obj) (hn : n ≤ W.heap.size) : Quieter n W (W.alloc o) :=
 ⟨(Below.refl n W).alloc hn o, fun _ _ hk _ _ => (Below.heap_alloc _ _ _ (Array.getElem?_eq_some_iff.1 hk).1).trans hk⟩
theorem Kp.put {W : World} {l : Nat} {o : Obj} (o' : Obj) (h : W.heap[l]? = some o) (ho : o.isCells = false) : Kp W (W.putObj l o') := by
 intro k o1 hk hs
 have hne : k ≠ l := fun e => by subst e; rw [h] at hk; cases hk; rw [not_state ho] at hs; cases hs
 exact (World.putObj_heap_other hne).trans hk
theorem Kp.tr {A B C : World} (h : Kp A B) (k : Kp B C) : Kp A C := fun i o hi ho => k i o (h i o hi ho) ho
theorem Kp.grown {A B : World} {row : Option Nat} (hg : A.grownBy B row) (hr : ∀ (j : Nat) (o : Obj), row = some j → A.heap[j]? = some o → isState o = false) : Kp A B := by
 intro k o hk hs
 refine (hg.block k (Array.getElem?_eq_some_iff.1 hk).1 (fun e => ?_)).trans hk
 rw [hr k o e.symm hk] at hs; cases hs
theorem Kp.new (W : World) (o : Obj) : Kp W (W.alloc o) := fun _ _ hk _ => (Below.heap_alloc _ _ _ (Array.getElem?_eq_some_iff.1 hk).1).trans hk
def roundOut {α : Type} (I Ix : List α → World → Prop) (ex : Nat) (xs : List α) (W : World) : Exit → Act → World → Prop
 | .normal, _, W' => KeepsOthers W W' ∧ Kp W W' ∧ I xs W'
 | .exit id, _, W' => KeepsOthers W W' ∧ id = ex ∧ Ix xs W'
 | _, _, _ => False
def SeqState {α : Type} (P : Program) (gf : FuncId) (lb : Array Value) (enc : α → Value) (S Sp : List α → Prop) (w : World) : Prop :=
 ∀ (l : Nat) (J Jx : List α → World → Prop) (W : World), Below w.heap.size w W → (∀ s A B, J s A → Ab w.heap.size A B → J s B) → (∀ s A B, Jx s A → Ab w.heap.size A B → Jx s B) →
  (∀ pre x W1, J pre W1 → YieldAt Fence.wide 0 P l #[enc x] W1 fun e W' => (e = .returned (.bool true) ∧ J (pre ++ [x]) W' ∧ Kp W1 W') ∨ (e = .returned (.bool false) ∧ Jx (pre ++ [x]) W')) →
  J [] W →
  CallsIn Fence.wide 0 P gf (#[.func (.yield l) #[] #[]] ++ lb) W fun e W' => (∃ v, e = .returned v) ∧ ((∃ xs, S xs ∧ J xs W') ∨ (∃ pre, Sp pre ∧ Jx pre W'))
theorem wp_range_state {α : Type} {P : Program} {g : Operand} {ps : Array Tmp} {assign body : Code} {Q : Exit → Act → World → Prop} {a : Act} {w : World} {gf : FuncId} {lb : Array Value}
  (hg : a.eval g = .func (.func gf) #[] lb) (eg : ∀ args w, (callFunc gf args).run P w = .ok (.enter gf args) w) (enc : α → Value) (hps : ps.size = 1) {S Sp : List α → Prop}
  (hseq : SeqState P gf lb enc S Sp w) (I Ix : List α → World → Prop) (hI : ∀ s A B, I s A → Quieter w.heap.size A B → I s B) (hIx : ∀ s A B, Ix s A → Quieter w.heap.size A B → Ix s B) (h0 : I [] w) (a₁ : α → Act) (ex : Nat)
  (hassign : ∀ (l : Nat) (x : α) (W : World) (K : Act → World → Prop), K (a₁ x) W →
   assign.wpIn (Fence.wide.inRound l) 0 P (Exit.then K (fun _ _ _ => False)) { tmps := (ps.zip #[enc x]).foldl (fun t (p, v) => t.setIfInBounds p v) a.tmps, defers := [] } W)
  (hbody : ∀ (l : Nat) (pre : List α) (x : α) (W : World), I pre W → body.wpIn (Fence.wide.inRound l) 0 P (roundOut I Ix ex (pre ++ [x]) W) (a₁ x) W)
  (hdone : ∀ (D : Nat) (xs : List α) (W : World), w.heap.size ≤ D → S xs → I xs W → W.heap[D]? = some (.deferred (some [])) → Q .normal { a with defers := { target := .collected D, args := #[] } :: a.defers } W)
  (hstop : ∀ (D : Nat) (pre : List α) (W : World), w.heap.size ≤ D → Sp pre → Ix pre W → W.heap[D]? = some (.deferred (some [])) → (Code.exit ex).wp P Q { a with defers := { target := .collected D, args := #[] } :: a.defers } W) :
  (Code.rangeFunc g ps assign body).wp P Q a w := by
 refine wpIn_wide.1 (wpIn_rangeFunc (F := Fence.wide) (n := 0) (fun fn hfn => ?_))
 generalize hst : (fun (st : LoopState) (pe : Option Code) => ({ state := st, pending := pe, fn, tmps := a.tmps, params := ps, assign, body, defers := w.heap.size } : Loop)) = st
 have st_eq : ∀ s p, ({ state := s, pending := p, fn, tmps := a.tmps, params := ps, assign, body, defers := w.heap.size } : Loop) = st s p := fun s p => by rw [← hst]
 have st_state : ∀ s p, (st s p).state = s := fun s p => by rw [← hst]
 have st_pend : ∀ s p, (st s p).pending = p := fun s p => by rw [← hst]
 have st_busy : ∀ s p s', { st s p with state := s' } = st s' p := fun s p s' => by rw [← hst]
 have st_end : ∀ s p s' p', { st s p with state := s', pending := p' } = st s' p' := fun s p s' p' => by rw [← hst]
 have e1 := run_enterLoop_outer (P := P) (w := w) fn a.tmps ps assign body
 rw [st_eq] at e1
 generalize hW1 : (w.alloc (.deferred (some []))).alloc (.loop (st .ready none)) = W1 at e1
 have hL : W1.heap[w.heap.size + 1]? = some (.loop (st .ready none)) := by
  rw [← hW1]
  have := World.alloc_heap_new (w.alloc (.deferred (some []))) (.loop (st .ready none))
  rwa [World.size_alloc] at this
 have hD : W1.heap[w.heap.size]? = some (.deferred (some [])) := by
  rw [← hW1]; exact (Below.heap_alloc _ _ _ (by simp)).trans (World.alloc_heap_new w _)
 have hI1 : I [] W1 := by rw [← hW1]; exact hI _ _ _ (hI _ _ _ h0 (Quieter.new _ _ (Nat.le_refl _))) (Quieter.new _ _ (by simp))
 have hB1 : Below w.heap.size w W1 := by rw [← hW1]; exact ((Below.refl _ w).alloc (Nat.le_refl _) _).alloc (by simp) _
 refine ⟨w.heap.size + 1, [{ target := .collected w.heap.size, args := #[] }], W1, { target := .fn (.func gf) lb, args := #[.func (.yield (w.heap.size + 1)) #[] #[]] }, W1, gf,
  #[.func (.yield (w.heap.size + 1)) #[] #[]] ++ lb, W1, e1, ?_, fun _ _ => trivial, ?_, ?_, ?_⟩
 ·simp only [resolve, hg]; simp [go_sem]
 ·simp [invoke, go_sem, eg]
 ·intro h; simp [Fence.wide] at h
 ·refine (hseq (w.heap.size + 1)
   (fun s W => I s W ∧ W.heap[w.heap.size + 1]? = some (.loop (st .ready none)) ∧ W.heap[w.heap.size]? = some (.deferred (some [])))
   (fun s W => Ix s W ∧ W.heap[w.heap.size + 1]? = some (.loop (st .done (some (.exit ex)))) ∧ W.heap[w.heap.size]? = some (.deferred (some [])))
   W1 hB1 (fun s A B h hab => ⟨hI _ _ _ h.1 hab.calm, hab.same _ _ h.2.1 rfl, hab.same _ _ h.2.2 rfl⟩)
   (fun s A B h hab => ⟨hIx _ _ _ h.1 hab.calm, hab.same _ _ h.2.1 rfl, hab.same _ _ h.2.2 rfl⟩) ?_ ⟨hI1, hL, hD⟩).mono ?_
  ·rintro pre x W ⟨hi, hl, hd⟩
   have hlt : w.heap.size + 1 < W.heap.size := (Array.getElem?_eq_some_iff.1 hl).1
   have hy := run_yield (P := P) (args := #[enc x]) hl (by rw [← hst]; simp [hps])
   have hb := run_beginRound (P := P) hl (st_state _ _)
   rw [st_busy] at hb
   rw [← hst] at hy
   refine ⟨fn, _, assign, body, hy, roundIn_of_wpIn hfn (hassign _ x W _ ⟨_, hb, ?_⟩)⟩
   have hl2 : (W.putObj (w.heap.size + 1) (.loop (st .busy none))).heap[w.heap.size + 1]? = some (.loop (st .busy none)) := World.putObj_heap_same hlt
   have hd2 : (W.putObj (w.heap.size + 1) (.loop (st .busy none))).heap[w.heap.size]? = some (.deferred (some [])) := (World.putObj_heap_other (by omega)).trans hd
   refine wpIn_mono (hbody _ pre x _ (hI _ _ _ hi (Quieter.put _ (by omega) hl rfl))) ?_
   rintro e a3 W3 hp
   cases e with
   | normal =>
    obtain ⟨hk, hkp, hi3⟩ := hp
    have hl3 := hk.same _ _ hl2 rfl
    have he := run_endRound (P := P) none hl3
    simp only [Option.isNone_none, if_true, st_end] at he
    exact ⟨_, _, he, .inl ⟨rfl, ⟨hI _ _ _ hi3 (Quieter.put _ (by omega) hl3 rfl), World.putObj_heap_same (Array.getElem?_eq_some_iff.1 hl3).1, (World.putObj_heap_other (by omega)).trans (hk.same _ _ hd2 rfl)⟩,
     ((Kp.put _ hl rfl).tr hkp).tr (Kp.put _ hl3 rfl)⟩⟩
   | exit id =>
    obtain ⟨hk, rfl, hi3⟩ := hp
    have hl3 := hk.same _ _ hl2 rfl
    have he := run_endRound (P := P) (some (.exit id)) hl3
    simp only [Option.isNone_some, st_end] at he
    exact ⟨_, _, he, .inr ⟨rfl, hIx _ _ _ hi3 (Quieter.put _ (by omega) hl3 rfl), World.putObj_heap_same (Array.getElem?_eq_some_iff.1 hl3).1, (World.putObj_heap_other (by omega)).trans (hk.same _ _ hd2 rfl)⟩⟩
   | ret => exact hp.elim
   | goto t => exact hp.elim
   | panic ch => exact hp.elim
   | outgrown => exact hp.elim
  ·rintro e W2 ⟨⟨v, rfl⟩, (⟨xs, hS, hi, hl, hd⟩ | ⟨pre, hSp, hi, hl, hd⟩)⟩
   ·have he := run_endLoop (P := P) hl (by rw [st_state]; simp)
    rw [st_busy, st_pend] at he
    exact ⟨none, _, he, hdone _ xs _ (Nat.le_refl _) hS (hI _ _ _ hi (Quieter.put _ (by omega) hl rfl)) ((World.putObj_heap_other (by omega)).trans hd)⟩
   ·have he := run_endLoop (P := P) hl (by rw [st_state]; simp)
    rw [st_busy, st_pend] at he
    exact ⟨some (.exit ex), _, he, wpIn_wide.2 (hstop _ pre _ (Nat.le_refl _) hSp (hIx _ _ _ hi (Quieter.put _ (by omega) hl rfl)) ((World.putObj_heap_other (by omega)).trans hd))⟩
end
section
open Go.RowKit Go.Shelf
attribute [local go_sem] Oper.semAt_some
abbrev At (b : Book) : Type := Fin b.batches.length
def namesAt (b : Book) (xs : List (At b)) : List Str := xs.map fun x => (b.at x.val).name
def Gr (b : Book) (xs : List (At b)) : Prop := ∀ m, greedy b (m + xs.length) [] = greedy b m (namesAt b xs)
theorem Gr.nil (b : Book) : Gr b [] := fun _ => rfl
theorem namesAt_snoc (b : Book) (xs : List (At b)) (x : At b) : namesAt b (xs ++ [x]) = namesAt b xs ++ [(b.at x.val).name] := by simp [namesAt]
theorem Gr.snoc {b : Book} {xs : List (At b)} {x : At b} (h : Gr b xs) (hx : nextOf b (namesAt b xs) = some x.val) : Gr b (xs ++ [x]) := by
 intro m
 have e : m + (xs ++ [x]).length = (m + 1) + xs.length := by rw [List.length_append, List.length_singleton]; omega
 rw [e, h (m + 1), namesAt_snoc, greedy_some hx]
theorem ownsRow_block {w w' : World} {base : Nat} {e : TypeId} {size : Nat} {v : Value} {n : Nat} {xs : List Value} (h : w.ownsRow base e size v n xs) (k : ∀ (g : Nat) c, w.heap[g]? = some (.cells c e (0, 0)) → w'.heap[g]? = some (.cells c e (0, 0))) : w'.ownsRow base e size v n xs := by
 refine ⟨h.1, ?_⟩
 rcases h.2 with h2 | ⟨g, cap, cur, hv, hb, hg, r⟩
 ·exact Or.inl h2
 ·exact Or.inr ⟨g, cap, cur, hv, hb, k _ _ hg, r⟩
theorem rowIs_kp {w w' : World} {b : Nat} {t : TypeId} {n : Nat} {f : Nat → Value} (h : w.rowIs b t n f) (k : Kp w w') (ht : stateT t = true) : w'.rowIs b t n f := by
 obtain ⟨c, hc, r⟩ := h
 exact ⟨c, k _ _ hc ht, r⟩
theorem GoneAt.kp {w w' : World} {base g bg : Nat} {vh vn : Value} {b : Book} {gone : List Str} (h : GoneAt w base g bg vh vn b gone) (k : Kp w w') : GoneAt w' base g bg vh vn b gone := by
 obtain ⟨gl, h1, h2, h3⟩ := h
 exact ⟨gl, h1, h2, ⟨rowIs_kp h3.cells k rfl, rowIs_kp h3.row k rfl, ownsRow_block h3.hrow (fun g c hg => k _ _ hg rfl), ownsRow_block h3.nrow (fun g c hg => k _ _ hg rfl), h3.hg, h3.hbg, h3.ne⟩⟩
theorem leave_ab {w : World} {base g bg n : Nat} {vh vn : Value} {b : Book} {gone : List Str} {p : Nat} (hst : GoneAt w base g bg vh vn b gone) (hok : bookOk b = true) (hlt : p < b.batches.length)
  (hx : hasB gone (b.at p).name = false) (hg : n ≤ g) (hbg : n ≤ bg) :
  Calls Qry.prog 92 #[.pointer (some ⟨g, 0, none⟩), .int .i64 (p : Int)] w fun e w' => e = .returned (.tuple #[]) ∧ Ab n w w' ∧ GoneAt w' base g bg vh vn b (gone ++ [(b.at p).name]) := by
 have hp := place_self hok hlt
 obtain ⟨gl, h1, h2, h3⟩ := hst
 have h8 := ok_things hok
 refine (leave_any w base g bg vh vn (hasBits b) (needsBits b) gl (freeN b (outOf b gone)) p h3 (by rw [hasBits_len]; exact hlt) (by rw [h1]; exact hlt) (freeN_small b _ h8) (by rw [bnth_has hlt]; exact bitsN_small _ _ h8)).mono ?_
 rintro e w' ⟨he, hal, htape⟩
 refine ⟨he, ⟨?_, ?_⟩, gl.set p true, by simp [h1], fun i hi => ?_, ?_⟩
 ·have hb := ((Below.refl n w).setCell (p := ⟨bg, p, none⟩) hbg (.bool true)).setCell (p := ⟨g, 3, none⟩) hg (.int .u64 ((freeN b (outOf b gone) : Int) + (bnth (hasBits b) p : Int)))
  exact ⟨hal.2.1.trans hb.os, htape, hal.2.2.trans hb.output, by rw [hal.1]; exact hb.size, fun k hk => by rw [hal.1]; exact hb.block k hk⟩
 ·intro k o hk ho
  rw [hal.1]
  have n1 : k ≠ g := fun e => by
   obtain ⟨c, hc, _⟩ := h3.cells
   rw [e, hc] at hk; cases hk; cases ho
  have n2 : k ≠ bg := fun e => by
   obtain ⟨c, hc, _⟩ := h3.row
   rw [e, hc] at hk; cases hk; cases ho
  exact ((Below.heap_setCell _ _ _ k n1).trans (Below.heap_setCell _ _ _ k n2)).trans hk
 ·rw [gnth_set _ _ _ (by rw [h1]; exact hlt), out_step hok hp hlt hi, h2 i hi]; rfl
 ·rw [free_go hok hp hlt hx]
  exact h3.left (by rw [h1]; exact hlt) hal
def cntN (f : Nat → Bool) : Nat → Nat
 | 0 => 0
 | n + 1 => cntN f n + (if f n then 1 else 0)
theorem cntN_congr {f g : Nat → Bool} : ∀ {n : Nat}, (∀ i, i < n → f i = g i) → cntN f n = cntN g n
 | 0, _ => rfl
 | n + 1, h => by rw [cntN, cntN, cntN_congr (fun i hi => h i (by omega)), h n (by omega)]
theorem cntN_le {f g : Nat → Bool} : ∀ {n : Nat}, (∀ i, i < n → g i = true → f i = true) → cntN g n ≤ cntN f n
 | 0, _ => Nat.le_refl _
 | n + 1, h => by
  have h1 := cntN_le (n := n) (fun i hi => h i (by omega))
  have h2 := h n (by omega)
  rw [cntN, cntN]
  cases hg : g n
  ·simp; omega
  ·rw [h2 hg]; simp; exact h1
theorem cntN_lt {f g : Nat → Bool} {p : Nat} (hf : f p = true) (hg : g p = false) : ∀ {n : Nat}, (∀ i, i < n → g i = true → f i = true) → p < n → cntN g n < cntN f n
 | 0, _, hp => absurd hp (by omega)
 | n + 1, h, hp => by
  rw [cntN, cntN]
  by_cases e : p = n
  ·subst e
   rw [hf, hg]
   have := cntN_le (n := p) (fun i hi => h i (by omega))
   simp; omega
  ·have h1 := cntN_lt hf hg (n := n) (fun i hi => h i (by omega)) (by omega)
   have h2 := h n (by omega)
   cases hgn : g n
   ·simp; omega
   ·rw [h2 hgn]; simp; exact h1
def isGone : Option Value → Bool
 | some (.bool x) => x
 | _ => false
def leftAt (bg n : Nat) (w : World) : Nat := cntN (fun i => !isGone (w.cell? ⟨bg, i, none⟩)) n
theorem left_eq {w : World} {base g bg : Nat} {vh vn : Value} {b : Book} {gone : List Str} (h : GoneAt w base g bg vh vn b gone) : leftAt bg b.batches.length w = cntN (fun i => !outOf b gone i) b.batches.length := by
 obtain ⟨gl, h1, h2, h3⟩ := h
 refine cntN_congr (fun i hi => ?_)
 rw [h3.row.cell (by rw [h1]; exact hi), ← h2 i hi]
 rfl
theorem left_lt {w w' : World} {base g bg : Nat} {vh vn : Value} {b : Book} {gone : List Str} {p : Nat} (hok : bookOk b = true) (hlt : p < b.batches.length) (hx : hasB gone (b.at p).name = false) (h : GoneAt w base g bg vh vn b gone) (h' : GoneAt w' base g bg vh vn b (gone ++ [(b.at p).name])) :
  leftAt bg b.batches.length w' < leftAt bg b.batches.length w := by
 rw [left_eq h, left_eq h']
 have hp := place_self hok hlt
 refine cntN_lt (p := p) (by simp [outOf, hx]) (by rw [out_step hok hp hlt hlt]; simp [putOut]) (fun i hi hh => ?_) hlt
 rw [out_step hok hp hlt hi] at hh
 simp only [putOut] at hh
 split at hh
 ·simp at hh
 ·exact hh
def StSeq (b : Book) (xs : List (At b)) : Prop := Gr b xs ∧ nextOf b (namesAt b xs) = none
set_option maxRecDepth 100000 in
set_option maxHeartbeats 1000000 in
theorem goers_state (b : Book) (Bn : Nat) (a1 a2 : Option Addr) (c1 c2 : Nat) (w : World) (h0 : w.cell? ⟨Bn, 0, none⟩ = some (.slice a1 b.things.length c1)) (h1 : w.cell? ⟨Bn, 1, none⟩ = some (.slice a2 b.batches.length c2))
  (hb : BookAt w a1 a2 b) (hok : bookOk b = true) :
  SeqState Qry.prog 111 #[.pointer (some ⟨Bn, 0, none⟩)] (fun x : At b => .int .i64 ((x.val : Nat) : Int)) (StSeq b) (Gr b) w := by
 intro l J Jx W hW hJ hJx hY hJ0
 have HOK := hid hok
 have h0' := Ext.keep hW h0
 have h1' := Ext.keep hW h1
 have hb' := hb.ext hW
 refine callsIn_of_wp Qry.func111 rfl trivial ?_ rfl
 simp only [Tryz.ntmps111, List.size_toArray, List.length_cons, List.length_nil, Nat.reduceAdd, Nat.reduceSub, Array.replicate_succ, Array.replicate_zero, List.push_toArray, List.append_toArray, List.nil_append, List.cons_append]
 gi_wp2_with fail
 refine ⟨trivial, rfl, (callsIn_wide.2 (startGoing_any b _ _ _ _ _ hb' HOK.out (ok_things HOK.out) (ok_five HOK.out))).mono ?_⟩
 rintro e w1 ⟨base, g, bg, vh, vn, rfl, hext1, hg, hbg, hgo⟩
 have hzw := hW.size
 have HG := hid (Nat.le_trans hzw hg)
 have HBG := hid (Nat.le_trans hzw hbg)
 have HJ1 := hid (hJ _ _ _ hJ0 (Ab.of_ext hext1 hzw))
 have HGO : Hid (GoneAt w1 base g bg vh vn b []) := ⟨List.replicate b.batches.length false, by simp, fun i hi => by simp [gnth, outOf, hasB, List.getD_eq_getElem?_getD, hi], by
  have e : freeN b (fun _ => false) = freeN b (outOf b []) := freeN_congr (fun i _ => by simp [outOf, hasB])
  rw [← e]; exact hgo⟩
 have HJ := hid hJ
 have HJX := hid hJx
 have HY := hid hY
 clear h0' h1' hext1 hgo hg hbg hJ0 hW hJ hJx hY hb' hb h0 h1 hok
 gi_wp2_with fail
 gi_loopw [4] (fun _ wr => ∃ pre : List (At b), J pre wr ∧ GoneAt wr base g bg vh vn b (namesAt b pre) ∧ Gr b pre) (fun _ wr => leftAt bg b.batches.length wr)
 case atStart => exact ⟨[], HJ1.out, HGO.out, Gr.nil b⟩
 case round =>
  obtain ⟨pre, hJp, hgn, hgr⟩ := hrel
  have HJP := hid hJp
  have HGN := hid hgn
  have HGR := hid hgr
  clear hJp hgn hgr
  have hsz : w.heap.size ≤ wr.heap.size := by
   obtain ⟨gl, _, _, h3⟩ := HGN.out
   have := h3.cells.lt
   have := HG.out
   omega
  gi_wp2_with fail
  refine ⟨trivial, rfl, (callsIn_wide.2 (first_v HGN.out HOK.out)).mono ?_⟩
  rintro e w2 ⟨(⟨p, rfl, hnx⟩ | ⟨rfl, hnx⟩), hext2⟩
  ·have hlt := nextOf_lt hnx
   have HNX := hid hnx
   have HJ2 := hid (HJ.out _ _ _ HJP.out (Ab.of_ext hext2 hsz))
   have HG2 := hid (HGN.out.ext hext2)
   have HX : Hid (hasB (namesAt b pre) (b.at p).name = false) := by
    have h := List.find?_some hnx
    simp only [goodN, Bool.and_eq_true, Bool.not_eq_true'] at h
    exact h.1
   clear hnx hext2
   gi_wp2_with fail
   refine ⟨trivial, rfl, (callsIn_wide.2 (leave_ab HG2.out HOK.out hlt HX.out HG.out HBG.out)).mono ?_⟩
   rintro e w3 ⟨rfl, hab3, hgo3⟩
   have HJ3 := hid (HJ.out _ _ _ HJ2.out hab3)
   have HG3 := hid hgo3
   clear hab3 hgo3
   obtain ⟨fn, tmps, assign, body, hy, hR⟩ := HY.out pre ⟨p, hlt⟩ w3 HJ3.out
   dsimp only at hy
   gi_wp2_with fail
   refine ⟨rfl, hR.mono ?_⟩
   clear hy hR
   rintro e w4 (⟨rfl, hJ4, hk4⟩ | ⟨rfl, hJx4⟩)
   ·have HJ4 := hid hJ4
    have HG4 := hid (HG3.out.kp hk4)
    clear hJ4 hk4
    gi_wp2_with fail
    go_roundw
    case rel => exact ⟨pre ++ [⟨p, hlt⟩], HJ4.out, by rw [namesAt_snoc]; exact HG4.out, HGR.out.snoc HNX.out⟩
    case measure => exact left_lt HOK.out hlt HX.out HGN.out HG4.out
   ·have HJX4 := hid hJx4
    clear hJx4
    gi_wp2_with fail
    refine bodyPost_ret (results_none rfl _ _ _) rfl ?_
    exact ⟨⟨_, rfl⟩, .inr ⟨_, HGR.out.snoc HNX.out, HJX4.out⟩⟩
  ·have HNX := hid hnx
   have HJ2 := hid (HJ.out _ _ _ HJP.out (Ab.of_ext hext2 hsz))
   clear hnx hext2
   gi_wp2_with fail
   refine bodyPost_ret (results_none rfl _ _ _) rfl ?_
   exact ⟨⟨_, rfl⟩, .inl ⟨pre, ⟨HGR.out, HNX.out⟩, HJ2.out⟩⟩
end
end Go.Proofs.YtdafpnpfcmgfcaaGreatDoor
