/- The walk over the law FnAsk, beside those that are only leaving. A code that comes in: from its reading to its bytes. A call that starts no goroutine keeps also the form of those that may; and the tied card of a program that can start some. -/
import Derived.Test.YtdafpnpfcmgfcaaGreatDoorKb50
import Derived.Test.YtdafpnpfcmgfcaaGreatDoorKb34
import Derived.ChangeSlices
import Derived.OpenShut
import Derived.Conc.Holds
import Derived.SevenTiedAt
namespace Go.Proofs.YtdafpnpfcmgfcaaGreatDoor
section
open Go Go.Conc Go.ConcN Go.RowKit
attribute [local go_sem] S_toList S_size S_get
theorem Grew.cell {a b : World} (h : Grew a b) {p : Addr} {x : Value} (hc : a.cell? p = some x) : b.cell? p = some x := Ext.keep (w := World.re a a.drawn b.tape) h.ext hc
theorem Grew.strs {a b : World} (h : Grew a b) {x : Option Addr} {ss : List Str} (hs : StrsAt a x ss) : StrsAt b x ss := StrsAt.ext (w := World.re a a.drawn b.tape) hs h.ext
structure AskF (b B : Book) (s : Str) (L : List Str) (k : Nat) : Prop where
 one : k = 1 → B = emptyBook
 zero : k = 0 → (∀ i, i < L.length → whoOf B (nth L i) = s) ∧ bookOk B = true ∧ (safeB B || !safeB b) = true
 rest : k ≠ 0 → k ≠ 1 → B = b
 six : k = 6 → hasB (movesL b) s = false ∧ someB (withB b s L) b.batches.length [] = false
 five : k = 5 → ∃ i, i < L.length ∧ whoOf b (nth L i) ≠ s ∧ whoOf b (nth L i) ≠ []
theorem ask_len (b : Book) (s : Str) (L : List Str) (h : b.batches.length ≤ 2199023255552) : (askB b s L).1.batches.length ≤ 2199023255552 := by
 by_cases h0 : (askB b s L).2 = 0
 ·have := ok_five (ask_ok (n := s) (things := L) (ask_zero h0).1); omega
 ·by_cases h1 : (askB b s L).2 = 1
  ·rw [one_book h1]; simp [emptyBook]
  ·rw [rest_book h0 h1]; exact h
theorem askF (b : Book) (s : Str) (L : List Str) : AskF b (askB b s L).1 s L (askB b s L).2 :=
 ⟨one_book, fun h => ⟨fun i hi => zero_who h (by rw [nth_get hi]; exact List.getElem_mem hi), ask_ok (ask_zero h).1, zero_safe h⟩, rest_book, fun h => ⟨six_moves h, by
  have := six_with h
  have e : (withB b s L).batches.length = b.batches.length := by simp [withB]
  rw [e] at this; exact this⟩, five_who⟩
structure StA [Floor] (v0 : World) (b B : Book) (s : Str) (L : List Str) (x1 x2 x3 g1 g2 : Option Addr) (y1 y2 y3 e1 e2 Bb Bx : Nat) (z : World) : Prop where
 grew : Grew v0 z
 low : Floor.low ≤ z.heap.size
 c0 : z.cell? ⟨Bb, 0, none⟩ = some (.slice x1 b.things.length y1)
 c1 : z.cell? ⟨Bb, 1, none⟩ = some (.slice x2 b.batches.length y2)
 d0 : z.cell? ⟨Bx, 0, none⟩ = some (.slice g1 B.things.length e1)
 d1 : z.cell? ⟨Bx, 1, none⟩ = some (.slice g2 B.batches.length e2)
 book : BookAt z x1 x2 b
 out : BookAt z g1 g2 B
 list : StrsAt z x3 L
theorem StA.on [Floor] {v0 : World} {b B : Book} {s : Str} {L : List Str} {x1 x2 x3 g1 g2 : Option Addr} {y1 y2 y3 e1 e2 Bb Bx : Nat} {z z' : World} (h : StA v0 b B s L x1 x2 x3 g1 g2 y1 y2 y3 e1 e2 Bb Bx z) (g : Grew z z') : StA v0 b B s L x1 x2 x3 g1 g2 y1 y2 y3 e1 e2 Bb Bx z' :=
 ⟨h.grew.tr g, Nat.le_trans h.low g.size, g.cell h.c0, g.cell h.c1, g.cell h.d0, g.cell h.d1, g.book h.book, g.book h.out, g.strs h.list⟩
set_option maxHeartbeats 4000000 in
set_option maxRecDepth 100000 in
theorem lawAsk_m [Floor] (a : Option Addr) (n c : Nat) (v : World) (h1 : BytesAt v a n) (hn : n ≤ c) (hc : c ≤ 140737488355328)
  (hg : v.cell? ⟨0, 0, none⟩ = some (.iface 176 (.agg #[.pointer (some ⟨1, 110, none⟩)]))) (hfl : Floor.low ≤ v.heap.size) :
  BodyM Tryz.prog Tryz.f4 #[.slice a n c] v (fun r v' => r = .bool true ∧ Grew v v') := by
 refine ⟨_, rfl, ?_⟩
 simp only [Tryz.ntmps4, List.size_toArray, List.length_cons, List.length_nil, Nat.reduceAdd, Nat.reduceSub, Array.replicate_succ, Array.replicate_zero, List.push_toArray, List.append_toArray, List.nil_append, List.cons_append]
 refine mw_front tamed 8 rfl (by kernel_rfl) (by kernel_rfl) (fun T => ?_)
 generalize hw : World.re v 0 T = w
 have HG0 : Hid (Grew v w) := by subst hw; exact Grew.re v 0 T
 replace h1 : BytesAt w a n := by subst hw; exact h1
 replace hg : w.cell? ⟨0, 0, none⟩ = some (.iface 176 (.agg #[.pointer (some ⟨1, 110, none⟩)])) := by subst hw; exact hg
 have HFL : Hid (Floor.low ≤ w.heap.size) := by subst hw; exact hfl
 clear hw hfl
 refine wpF_k (fun K hK => ?_)
 go_wp2_with fail
 refine wpF_k (fun K hK => ?_)
 by_cases hlong : 1048576 < n
 ·go_wp2_with fail
  exact ⟨rfl, _, resultsC_tmp (t := 2) rfl _, rfl, HG0.out⟩
 go_wp2_with fail
 clear hlong
 refine wpF_k (fun K hK => ?_)
 have HGV := hid hg
 go_wp2_with fail
 refine (drawAsk_any a n c _ h1 hn hc).mono ?_
 rintro e w2 ⟨b, x1, x2, x3, y1, y2, y3, s, L, rfl, hE2, hb2, hl2, hsm, hsl⟩
 have HEV := hid hE2
 clear h1 hn hc hg
 have HF := hid (askF b s L)
 have HSM := hid hsm
 have HB : Hid (Rec (w2.alloc (.cells #[.slice x1 b.things.length y1, .slice x2 b.batches.length y2] 26)) w2.heap.size 26 [.slice x1 b.things.length y1, .slice x2 b.batches.length y2]) := Rec.new w2 _ _
 have HE3 := hid (Ext.tr hE2 (ext_alloc w2 (.cells #[.slice x1 b.things.length y1, .slice x2 b.batches.length y2] 26)))
 have HB3 := hid (hb2.ext (ext_alloc w2 (.cells #[.slice x1 b.things.length y1, .slice x2 b.batches.length y2] 26)))
 have HL3 := hid (hl2.ext (ext_alloc w2 (.cells #[.slice x1 b.things.length y1, .slice x2 b.batches.length y2] 26)))
 clear hE2 hb2 hl2 hsm HEV
 go_wp2_with fail
 generalize w2.alloc (.cells #[.slice x1 b.things.length y1, .slice x2 b.batches.length y2] 26) = w3 at *
 generalize w2.heap.size = Bb at *
 refine wpF_k (fun K hK => ?_)
 have c0 := HB.out.cell (i := 0) rfl
 have c1 := HB.out.cell (i := 1) rfl
 go_wp2_with fail
 refine (implAsk_any b s L _ _ _ _ _ _ w3 HB3.out HL3.out (HE3.out.keep HGV.out)).mono ?_
 rintro e w4 ⟨v1, v2, rs, rfl, hE4, hO4⟩
 have HBL := hid (ask_len b s L HB3.out.2.1)
 have HSP : Hid (∀ w, BookAt w x1 x2 b → StrsAt w x3 L → Calls Qry.prog 11 #[.agg #[.slice x1 b.things.length y1, .slice x2 b.batches.length y2], .string (S s), .slice x3 L.length y3] w fun e w' =>
   ∃ a1 c1 a2 c2, e = .returned (.tuple #[.agg #[.slice a1 (askB b s L).1.things.length c1, .slice a2 (askB b s L).1.batches.length c2], .int .i64 (((askB b s L).2 : Nat) : Int)]) ∧ Ext w w' ∧ BookAt w' a1 a2 (askB b s L).1) := fun w h1 h2 => specAsk_any b s L x1 x2 x3 y1 y2 y3 w h1 h2
 generalize (askB b s L).1 = B at *
 generalize (askB b s L).2 = k at *
 obtain ⟨g1, e1, g2, e2, rfl, rfl, hat4⟩ := hO4.at HBL.out
 have hEx := Ext.tr hE4 (ext_alloc w4 (.cells #[.slice g1 B.things.length e1, .slice g2 B.batches.length e2] 26))
 have HX := hid (hat4.ext (ext_alloc w4 (.cells #[.slice g1 B.things.length e1, .slice g2 B.batches.length e2] 26)))
 have HRX : Hid (Rec (w4.alloc (.cells #[.slice g1 B.things.length e1, .slice g2 B.batches.length e2] 26)) w4.heap.size 26 [.slice g1 B.things.length e1, .slice g2 B.batches.length e2]) := Rec.new w4 _ _
 replace HB3 := hid (HB3.out.ext hEx)
 replace HL3 := hid (HL3.out.ext hEx)
 replace HE3 := hid (Ext.tr HE3.out hEx)
 replace HB := hid (HB.out.ext hEx)
 clear hEx hat4 hE4 hO4 c0 c1
 go_wp2_with fail
 generalize w4.alloc (.cells #[.slice g1 B.things.length e1, .slice g2 B.batches.length e2] 26) = w5 at *
 generalize w4.heap.size = Bx at *
 refine wpF_k (fun K hK => ?_)
 have c0 := HB.out.cell (i := 0) rfl
 have c1 := HB.out.cell (i := 1) rfl
 go_wp2_with fail
 refine (HSP.out w5 HB3.out HL3.out).mono ?_
 rintro e w6 ⟨s1, t1, s2, t2, rfl, hE6, hsp6⟩
 have hEx := Ext.tr hE6 (ext_alloc w6 (.cells #[.slice s1 B.things.length t1, .slice s2 B.batches.length t2] 26))
 have HW := hid (hsp6.ext (ext_alloc w6 (.cells #[.slice s1 B.things.length t1, .slice s2 B.batches.length t2] 26)))
 have HRW : Hid (Rec (w6.alloc (.cells #[.slice s1 B.things.length t1, .slice s2 B.batches.length t2] 26)) w6.heap.size 26 [.slice s1 B.things.length t1, .slice s2 B.batches.length t2]) := Rec.new w6 _ _
 have HST : Hid (StA v b B s L x1 x2 x3 g1 g2 y1 y2 y3 e1 e2 Bb Bx (w6.alloc (.cells #[.slice s1 B.things.length t1, .slice s2 B.batches.length t2] 26))) :=
  ⟨HG0.out.tr (Grew.of (Ext.tr HE3.out hEx)), Nat.le_trans HFL.out (Ext.tr HE3.out hEx).size, (HB.out.ext hEx).cell rfl, (HB.out.ext hEx).cell rfl, (HRX.out.ext hEx).cell rfl, (HRX.out.ext hEx).cell rfl, HB3.out.ext hEx, HX.out.ext hEx, HL3.out.ext hEx⟩
 clear hEx hsp6 hE6 c0 c1 HSP HB3 HL3 HE3 HB HX HRX HG0 HFL HGV
 go_wp2_with fail
 generalize w6.alloc (.cells #[.slice s1 B.things.length t1, .slice s2 B.batches.length t2] 26) = w7 at *
 generalize w6.heap.size = Bw at *
 refine wpF_k (fun K hK => ?_)
 have d0 := HST.out.d0
 have d1 := HST.out.d1
 have q0 := HRW.out.cell (i := 0) rfl
 have q1 := HRW.out.cell (i := 1) rfl
 go_wp2_with (go_at_call 16; refine (wBook_same B g1 g2 s1 s2 e1 e2 t1 t2 w7 HST.out.out HW.out).mono ?_; rintro e w8 ⟨rfl, hE8⟩)
 have HS8 := hid (HST.out.on (Grew.of hE8))
 clear hE8 HST HRW HW d0 d1 q0 q1
 refine wpF_k (fun K hK => ?_)
 by_cases hk1 : k = 1
 ·have hBe := HF.out.one hk1
  subst hk1
  have HS9 : Hid (StA v b emptyBook s L x1 x2 x3 g1 g2 y1 y2 y3 e1 e2 Bb Bx w8) := by
   show StA v b emptyBook s L x1 x2 x3 g1 g2 y1 y2 y3 e1 e2 Bb Bx w8
   rw [← hBe]; exact HS8.out
  have d0 : w8.cell? ⟨Bx, 0, none⟩ = some (.slice g1 0 e1) := HS9.out.d0
  have d1 : w8.cell? ⟨Bx, 1, none⟩ = some (.slice g2 0 e2) := HS9.out.d1
  have HN : Hid (BookAt w8 none none emptyBook) := ⟨⟨by simp [emptyBook], fun i hi => by simp [emptyBook] at hi⟩, ⟨by simp [emptyBook], fun i hi => by simp [emptyBook] at hi⟩⟩
  clear hBe HF
  go_wp2_with (go_at_call 16; refine (wBook_same emptyBook g1 g2 none none e1 e2 0 0 w8 HS9.out.out HN.out).mono ?_; rintro e w9 ⟨rfl, hE9⟩)
  exact ⟨rfl, _, resultsC_tmp (t := 2) rfl _, rfl, HS9.out.grew.tr (Grew.of hE9)⟩
 have hk1' : ((k : Int) == 1) = false := by rw [beq_eq_false_iff_ne]; omega
 go_wp2_with fail
 refine wpF_k (fun K hK => ?_)
 by_cases hk0 : k = 0
 ·obtain ⟨hz1, hz2, hz3⟩ := HF.out.zero hk0
  have hk0' : ((k : Int) == 0) = true := by rw [hk0]; rfl
  clear hk0 hk1
  have HZ1 := hid hz1
  have HZ2 := hid hz2
  have HZ3 := hid hz3
  clear hz1 hz2 hz3 HF hk1'
  go_wp2_with fail
  go_loopw [10] (fun i wr => ∃ (j : Nat), j ≤ L.length ∧ i = .int .i64 j ∧ Ext w8 wr) (fun i _ => L.length - (intOf i).toNat)
  case atStart => exact ⟨0, Nat.zero_le _, rfl, Ext.rfl' _⟩
  case round =>
   obtain ⟨j, hj, rfl, hEr⟩ := hrel
   have HSR := hid (HS8.out.on (Grew.of hEr))
   have HER := hid hEr
   have hLb := HSR.out.list.1
   clear hEr
   by_cases hlt : j < L.length
   ·have d0 := HSR.out.d0
    have d1 := HSR.out.d1
    obtain ⟨htl, bl, ol, rfl, hcl⟩ := HSR.out.list.2 j hlt
    have hwho := HZ1.out j hlt
    go_upto_region 14 with fail
    refine wp_region_T (fun w' => w'.cell? ⟨Bx, 0, none⟩ = some (.slice g1 B.things.length e1) ∧ w'.cell? ⟨Bx, 1, none⟩ = some (.slice g2 B.batches.length e2) ∧ w'.cell? ⟨bl, ol + j, none⟩ = some (.string (S (nth L j)))) 8 (by kernel_rfl) ⟨d0, d1, hcl⟩ (fun hS => ?_)
    refine tn 0 hS ?_
    try simp only [List.set]
    refine tn 1 hS ?_
    try simp only [List.set]
    refine tn 2 hS ?_
    try simp only [List.set]
    refine tn 3 hS ?_
    try simp only [List.set]
    refine tn 4 hS ?_
    try simp only [List.set]
    refine tn 6 hS ?_
    try simp only [List.set]
    refine wpT_one 5 rfl (by kernel_rfl) rfl rfl (fun K hK => ?_)
    go_simp
    refine (implWho_any B (nth L j) g1 g2 e1 e2 _ (HSR.out.out.ext (ext_drewN wr 1)) htl).mono ?_
    rintro e w' ⟨rfl, hE'⟩
    rw [hwho]
    have HEN := hid (Ext.tr HER.out (Ext.tr (ext_drewN wr 1) hE'))
    go_wp2_with fail
    refine hK.out _ _ ⟨hE'.keep hS.1, hE'.keep hS.2.1, hE'.keep hS.2.2⟩ (fun hS1 => ?_)
    clear hK hS
    have hS := hS1
    clear hS1
    try clear K
    try simp only [put_some, List.set]
    refine wpT_takeN 7 (v := .bool false) rfl rfl (by kernel_rfl) (by kernel_rfl) (by kernel_rfl) (by kernel_rfl) (fun _ _ _ h => h) hS rfl (by intro w0 hw0; (try dsimp only at hw0); go_simp) ?_
    try simp only [List.set]
    refine wpT_done (by kernel_rfl) ?_ _
    clear hS hwho hE'
    go_wp2
    go_roundw
    case rel => exact ⟨j + 1, by omega, by go_num, HEN.out⟩
    case measure => simp [intOf]; omega
   ·have d0 := HSR.out.d0
    have d1 := HSR.out.d1
    have c0 := HSR.out.c0
    have c1 := HSR.out.c1
    cases hsx : safeB B
    ·have hsb : safeB b = false := by
      have h := HZ3.out
      rw [hsx] at h
      simpa using h
     go_wp2_with (first | (go_at_call 17; refine (implBookOk_any B g1 g2 e1 e2 wr HSR.out.out).mono ?_; rintro e wp ⟨rfl, hEp⟩; rw [HZ2.out]; replace d0 := hEp.keep d0; replace d1 := hEp.keep d1; replace c0 := hEp.keep c0; replace c1 := hEp.keep c1) | (go_at_call 18; have hEq' := hEq; refine (implSafe_any b x1 x2 y1 y2 _ ((HSR.out.book.ext hEp).ext hEq)).mono ?_; rintro e wt ⟨rfl, hEt⟩; rw [hsb]) | (go_at_call 18; refine (implSafe_any B g1 g2 e1 e2 _ (HSR.out.out.ext hEp)).mono ?_; rintro e wq ⟨rfl, hEq⟩; rw [hsx]; replace c0 := hEq.keep c0; replace c1 := hEq.keep c1))
     exact ⟨rfl, _, resultsC_tmp (t := 2) rfl _, rfl, HSR.out.grew.tr (Grew.of (Ext.tr hEp (Ext.tr hEq hEt)))⟩
    ·go_wp2_with (first | (go_at_call 17; refine (implBookOk_any B g1 g2 e1 e2 wr HSR.out.out).mono ?_; rintro e wp ⟨rfl, hEp⟩; rw [HZ2.out]; replace d0 := hEp.keep d0; replace d1 := hEp.keep d1) | (go_at_call 18; refine (implSafe_any B g1 g2 e1 e2 _ (HSR.out.out.ext hEp)).mono ?_; rintro e wq ⟨rfl, hEq⟩; rw [hsx]))
     exact ⟨rfl, _, resultsC_tmp (t := 2) rfl _, rfl, HSR.out.grew.tr (Grew.of (Ext.tr hEp hEq))⟩
 have hk0' : ((k : Int) == 0) = false := by rw [beq_eq_false_iff_ne]; omega
 go_wp2_with fail
 have HK1 := hid hk1
 have HK0 := hid hk0
 clear hk1 hk0 hk1' hk0'
 by_cases hk6 : k = 6
 ·refine wpF_0 (mw_seq (by kernel_rfl) (fun why h => by cases h) (mw_seq (by kernel_rfl) (fun why h => by cases h) (mw_region ?_)))
  have hk6' : ((k : Int) == 6) = true := by rw [hk6]; rfl
  have hk5' : ((k : Int) == 5) = false := by rw [hk6]; rfl
  obtain ⟨hmv, hsome⟩ := HF.out.six hk6
  have hBb := HF.out.rest HK0.out HK1.out
  have HS9 : Hid (StA v b b s L x1 x2 x3 g1 g2 y1 y2 y3 e1 e2 Bb Bx w8) := by
   have h := HS8.out
   rw [hBb] at h; exact h
  have HMV := hid hmv
  have HSO : Hid (∀ (x2' xg : Option Addr) (y2' yg : Nat) (w : World), BookAt w x1 x2' (withB b s L) → Calls Qry.prog 25 #[.agg #[.slice x1 b.things.length y1, .slice x2' b.batches.length y2'], .slice xg 0 yg] w fun e w' => e = .returned (.bool false) ∧ Ext w w') := by
   intro x2' xg y2' yg w hbw
   have e : (withB b s L).batches.length = b.batches.length := by simp [withB]
   have h := wSome_any (withB b s L) (by rw [e]; exact HSM.out.2.1) b.batches.length [] x1 x2' xg y1 y2' yg w hbw ⟨by simp, fun i hi => by simp at hi⟩ (by rw [e]; simp)
   rw [e, hsome] at h
   exact h
  have HSH : Hid (ShortP (movesL b)) := by
   show ShortP (movesL b)
   unfold movesL
   split
   ·exact pickL_short HS9.out.book.2 _ _ (Nat.le_refl _)
   ·exact fun i hi => by simp at hi
  have HLM : Hid ((movesL b).length ≤ 8796093022208) := by
   show _ ≤ _
   have := HS9.out.book.2.1
   unfold movesL
   split
   ·have := pickL_len (fun i => canB b i []) b.batches b.batches.length
    omega
   ·simp
  clear hmv hsome hBb HF HS8 hk6 HK0 HK1
  refine mo_list tamed [0, 1, 2, 3, 4, 5, 6, 7, 8] [9, 10, 11, 12, 13, 14, 15, 16, 17, 18, 19, 20, 21] rfl (by kernel_rfl) (by kernel_rfl) (fun T2 => ?_)
  simp only [List.filterMap, List.getElem?_toArray, List.getElem?_cons_zero, List.getElem?_cons_succ]
  have hs1 : StA v b b s L x1 x2 x3 g1 g2 y1 y2 y3 e1 e2 Bb Bx (World.re w8 0 T2) := HS9.out.on (Grew.re _ _ _)
  generalize World.re w8 0 T2 = w9 at hs1 ⊢
  have d0 := hs1.d0
  have d1 := hs1.d1
  have c0 := hs1.c0
  have c1 := hs1.c1
  have HS1 := hid hs1
  clear hs1 HS9
  go_wp2_with (go_at_call 16; refine (wBook_same b g1 g2 x1 x2 e1 e2 y1 y2 w9 HS1.out.out HS1.out.book).mono ?_; rintro e wa ⟨rfl, hEa⟩; replace c0 := hEa.keep c0; replace c1 := hEa.keep c1)
  have HSa := hid (HS1.out.on (Grew.of hEa))
  clear hEa HS1 d0 d1 c0 c1
  refine mo_call (by kernel_rfl) rfl rfl rfl rfl (by simp [Act.eval]) (moves_m b x1 x2 y1 y2 wa HSa.out.book HSa.out.low) (fun r v5 hr => ?_)
  obtain ⟨hG5, ho5⟩ := hr
  obtain ⟨aM, cM, rfl, hsM⟩ := ho5.at HLM.out HSH.out
  have HS5 := hid (HSa.out.on hG5)
  have HM5 := hid hsM
  clear hG5 ho5 hsM HSa
  walk_nrm
  refine mo_list tamed [10, 11, 12, 13, 14, 15, 16, 17, 18, 19, 20, 21] [] rfl (by kernel_rfl) (by kernel_rfl) (fun T3 => ?_)
  simp only [List.filterMap, List.getElem?_toArray, List.getElem?_cons_zero, List.getElem?_cons_succ]
  have hs1 : StA v b b s L x1 x2 x3 g1 g2 y1 y2 y3 e1 e2 Bb Bx (World.re v5 0 T3) := HS5.out.on (Grew.re _ _ _)
  have hm1 : StrsAt (World.re v5 0 T3) aM (movesL b) := HM5.out
  generalize World.re v5 0 T3 = w9 at hs1 hm1 ⊢
  have c0 := hs1.c0
  have c1 := hs1.c1
  have HS1 := hid hs1
  have HM1 := hid hm1
  clear hs1 hm1 HS5 HM5
  go_wp2_with (first | (go_at_call 24; refine (wHas_v aM cM (movesL b) s false w9 HM1.out HMV.out).mono ?_; rintro e w' ⟨rfl, rfl⟩) | (go_at_call 26; refine (wWith_any b s L x1 x2 x3 y1 y2 y3 _ HS1.out.book HS1.out.list hsl).mono ?_; rintro e wb ⟨x2', y2', rfl, hEb, hbk⟩) | (go_at_call 25; refine (HSO.out x2' _ y2' _ _ (hbk.ext (ext_alloc _ _))).mono ?_; rintro e wd ⟨rfl, hEd⟩))
  have HSd := hid (HS1.out.on (Grew.of (Ext.tr hEb (Ext.tr (ext_alloc _ _) hEd))))
  clear hEb hEd hbk HS1 HM1 c0 c1
  refine mo_nil ?_
  change MW _ _ _ _ _
  refine mw_cond (t := false) rfl ?_
  refine mw_skip ?_
  change MW _ _ _ _ _
  refine mw_wp tamed rfl (by kernel_rfl) (fun T4 => ?_)
  go_wp2_with fail
  exact ⟨rfl, _, resultsC_tmp (t := 2) rfl _, rfl, HSd.out.grew.tr (Grew.re _ _ _)⟩
 ·refine wpF_0 (mw_wp tamed rfl (by kernel_rfl) (fun T2 => ?_))
  have hBb := HF.out.rest HK0.out HK1.out
  have hs9 : StA v b b s L x1 x2 x3 g1 g2 y1 y2 y3 e1 e2 Bb Bx (World.re w8 0 T2) := by
   have h := HS8.out.on (Grew.re w8 0 T2)
   rw [hBb] at h; exact h
  have HF5 : Hid (k = 5 → ∃ i, i < L.length ∧ whoOf b (nth L i) ≠ s ∧ whoOf b (nth L i) ≠ []) := HF.out.five
  generalize World.re w8 0 T2 = w9 at hs9 ⊢
  have HS9 := hid hs9
  have d0 := hs9.d0
  have d1 := hs9.d1
  have c0 := hs9.c0
  have c1 := hs9.c1
  have hk6' : ((k : Int) == 6) = false := by rw [beq_eq_false_iff_ne]; omega
  clear hs9 hBb HF HS8
  by_cases hk5 : k = 5
  ·have hk5' : ((k : Int) == 5) = true := by rw [hk5]; rfl
   obtain ⟨iw, hiw, hne1, hne2⟩ := HF5.out hk5
   have HW1 := hid hne1
   have HW2 := hid hne2
   clear hk5 hk6 HF5 hne1 hne2
   go_wp2_with (go_at_call 16; refine (wBook_same b g1 g2 x1 x2 e1 e2 y1 y2 w9 HS9.out.out HS9.out.book).mono ?_; rintro e wa ⟨rfl, hEa⟩)
   have HSa := hid (HS9.out.on (Grew.of hEa))
   clear hEa HS9 d0 d1 c0 c1
   go_loopw [11] (fun i wr => ∃ (j : Nat), j ≤ iw ∧ i = .int .i64 j ∧ Ext wa wr) (fun i _ => L.length - (intOf i).toNat)
   case atStart => exact ⟨0, Nat.zero_le _, rfl, Ext.rfl' _⟩
   case round =>
    obtain ⟨j, hj, rfl, hEr⟩ := hrel
    have HSR := hid (HSa.out.on (Grew.of hEr))
    have HER := hid hEr
    have hLb := HSR.out.list.1
    clear hEr
    have hlt : j < L.length := by omega
    have c0 := HSR.out.c0
    have c1 := HSR.out.c1
    obtain ⟨htl, bl, ol, rfl, hcl⟩ := HSR.out.list.2 j hlt
    obtain ⟨W, hW⟩ : ∃ W, whoOf b (nth L j) = W := ⟨_, rfl⟩
    cases hq : (W == s)
    ·cases hq0 : (W == [])
     ·skip
      go_upto_region 23 with fail
      refine wp_region_T (fun w' => w'.cell? ⟨Bb, 0, none⟩ = some (.slice x1 b.things.length y1) ∧ w'.cell? ⟨Bb, 1, none⟩ = some (.slice x2 b.batches.length y2) ∧ w'.cell? ⟨bl, ol + j, none⟩ = some (.string (S (nth L j)))) 17 (by kernel_rfl) ⟨c0, c1, hcl⟩ (fun hS => ?_)
      refine tn 0 hS ?_
      try simp only [List.set]
      refine tn 1 hS ?_
      try simp only [List.set]
      refine tn 2 hS ?_
      try simp only [List.set]
      refine tn 3 hS ?_
      try simp only [List.set]
      refine tn 4 hS ?_
      try simp only [List.set]
      refine tn 6 hS ?_
      try simp only [List.set]
      refine wpT_one 5 rfl (by kernel_rfl) rfl rfl (fun K hK => ?_)
      go_simp
      refine (implWho_any b (nth L j) x1 x2 y1 y2 _ (HSR.out.book.ext (ext_drewN wr 1)) htl).mono ?_
      rintro e w' ⟨rfl, hE'⟩
      rw [hW]
      have HEN := hid (Ext.tr HER.out (Ext.tr (ext_drewN wr 1) hE'))
      have HBN := hid (HSR.out.book.ext (Ext.tr (ext_drewN wr 1) hE'))
      go_wp2_with fail
      refine hK.out _ _ ⟨hE'.keep hS.1, hE'.keep hS.2.1, hE'.keep hS.2.2⟩ (fun hS1 => ?_)
      clear hK hS
      have hS := hS1
      clear hS1
      try clear K
      try simp only [put_some, List.set]
      refine wpT_takeN 7 (v := .bool true) rfl rfl (by kernel_rfl) (by kernel_rfl) (by kernel_rfl) (by kernel_rfl) (fun _ _ _ h => h) hS rfl (by intro w0 hw0; (try dsimp only at hw0); go_simp) ?_
      try simp only [List.set]
      refine tn 8 hS ?_
      try simp only [List.set]
      refine tn 9 hS ?_
      try simp only [List.set]
      refine tn 10 hS ?_
      try simp only [List.set]
      refine tn 11 hS ?_
      try simp only [List.set]
      refine tn 12 hS ?_
      try simp only [List.set]
      refine tn 13 hS ?_
      try simp only [List.set]
      refine wpT_one 14 rfl (by kernel_rfl) rfl rfl (fun K hK => ?_)
      go_simp
      refine (implWho_any b (nth L j) x1 x2 y1 y2 _ HBN.out htl).mono ?_
      rintro e w'' ⟨rfl, hE2⟩
      rw [hW]
      have HEN2 := hid (Ext.tr HEN.out hE2)
      go_wp2_with fail
      refine hK.out _ _ ⟨hE2.keep hS.1, hE2.keep hS.2.1, hE2.keep hS.2.2⟩ (fun hS1 => ?_)
      clear hK hS
      have hS := hS1
      clear hS1
      try clear K
      try simp only [put_some, List.set]
      refine wpT_takeN 15 (v := .bool true) rfl rfl (by kernel_rfl) (by kernel_rfl) (by kernel_rfl) (by kernel_rfl) (fun _ _ _ h => h) hS rfl (by intro w0 hw0; (try dsimp only at hw0); go_simp) ?_
      try simp only [List.set]
      refine tn 16 hS ?_
      try simp only [List.set]
      refine wpT_done (by kernel_rfl) ?_ _
      clear hS hW hE' hE2
      go_wp2
      exact ⟨rfl, _, resultsC_tmp (t := 2) rfl _, rfl, HSa.out.grew.tr (Grew.of HEN2.out)⟩
     ·have HJ : Hid (j + 1 ≤ iw) := by
       show _ ≤ _
       have : j ≠ iw := fun e => by
        subst e
        have h2 := HW2.out
        rw [hW] at h2
        exact h2 (by simpa using hq0)
       omega
      go_upto_region 23 with fail
      refine wp_region_T (fun w' => w'.cell? ⟨Bb, 0, none⟩ = some (.slice x1 b.things.length y1) ∧ w'.cell? ⟨Bb, 1, none⟩ = some (.slice x2 b.batches.length y2) ∧ w'.cell? ⟨bl, ol + j, none⟩ = some (.string (S (nth L j)))) 17 (by kernel_rfl) ⟨c0, c1, hcl⟩ (fun hS => ?_)
      refine tn 0 hS ?_
      try simp only [List.set]
      refine tn 1 hS ?_
      try simp only [List.set]
      refine tn 2 hS ?_
      try simp only [List.set]
      refine tn 3 hS ?_
      try simp only [List.set]
      refine tn 4 hS ?_
      try simp only [List.set]
      refine tn 6 hS ?_
      try simp only [List.set]
      refine wpT_one 5 rfl (by kernel_rfl) rfl rfl (fun K hK => ?_)
      go_simp
      refine (implWho_any b (nth L j) x1 x2 y1 y2 _ (HSR.out.book.ext (ext_drewN wr 1)) htl).mono ?_
      rintro e w' ⟨rfl, hE'⟩
      rw [hW]
      have HEN := hid (Ext.tr HER.out (Ext.tr (ext_drewN wr 1) hE'))
      have HBN := hid (HSR.out.book.ext (Ext.tr (ext_drewN wr 1) hE'))
      go_wp2_with fail
      refine hK.out _ _ ⟨hE'.keep hS.1, hE'.keep hS.2.1, hE'.keep hS.2.2⟩ (fun hS1 => ?_)
      clear hK hS
      have hS := hS1
      clear hS1
      try clear K
      try simp only [put_some, List.set]
      refine wpT_takeN 7 (v := .bool true) rfl rfl (by kernel_rfl) (by kernel_rfl) (by kernel_rfl) (by kernel_rfl) (fun _ _ _ h => h) hS rfl (by intro w0 hw0; (try dsimp only at hw0); go_simp) ?_
      try simp only [List.set]
      refine tn 8 hS ?_
      try simp only [List.set]
      refine tn 9 hS ?_
      try simp only [List.set]
      refine tn 10 hS ?_
      try simp only [List.set]
      refine tn 11 hS ?_
      try simp only [List.set]
      refine tn 12 hS ?_
      try simp only [List.set]
      refine tn 13 hS ?_
      try simp only [List.set]
      refine wpT_one 14 rfl (by kernel_rfl) rfl rfl (fun K hK => ?_)
      go_simp
      refine (implWho_any b (nth L j) x1 x2 y1 y2 _ HBN.out htl).mono ?_
      rintro e w'' ⟨rfl, hE2⟩
      rw [hW]
      have HEN2 := hid (Ext.tr HEN.out hE2)
      go_wp2_with fail
      refine hK.out _ _ ⟨hE2.keep hS.1, hE2.keep hS.2.1, hE2.keep hS.2.2⟩ (fun hS1 => ?_)
      clear hK hS
      have hS := hS1
      clear hS1
      try clear K
      try simp only [put_some, List.set]
      refine wpT_takeN 15 (v := .bool false) rfl rfl (by kernel_rfl) (by kernel_rfl) (by kernel_rfl) (by kernel_rfl) (fun _ _ _ h => h) hS rfl (by intro w0 hw0; (try dsimp only at hw0); go_simp) ?_
      try simp only [List.set]
      refine tn 16 hS ?_
      try simp only [List.set]
      refine wpT_done (by kernel_rfl) ?_ _
      clear hS hW hE' hE2
      go_wp2
      go_roundw
      case rel => exact ⟨j + 1, HJ.out, by go_num, HEN2.out⟩
      case measure => simp [intOf]; omega
    ·have HJ : Hid (j + 1 ≤ iw) := by
      show _ ≤ _
      have : j ≠ iw := fun e => by
       subst e
       have h2 := HW1.out
       rw [hW] at h2
       exact h2 (by simpa using hq)
      omega
     have hsw : W = s := by simpa using hq
     rw [hsw] at hW
     clear hsw hq
     go_upto_region 23 with fail
     refine wp_region_T (fun w' => w'.cell? ⟨Bb, 0, none⟩ = some (.slice x1 b.things.length y1) ∧ w'.cell? ⟨Bb, 1, none⟩ = some (.slice x2 b.batches.length y2) ∧ w'.cell? ⟨bl, ol + j, none⟩ = some (.string (S (nth L j)))) 17 (by kernel_rfl) ⟨c0, c1, hcl⟩ (fun hS => ?_)
     refine tn 0 hS ?_
     try simp only [List.set]
     refine tn 1 hS ?_
     try simp only [List.set]
     refine tn 2 hS ?_
     try simp only [List.set]
     refine tn 3 hS ?_
     try simp only [List.set]
     refine tn 4 hS ?_
     try simp only [List.set]
     refine tn 6 hS ?_
     try simp only [List.set]
     refine wpT_one 5 rfl (by kernel_rfl) rfl rfl (fun K hK => ?_)
     go_simp
     refine (implWho_any b (nth L j) x1 x2 y1 y2 _ (HSR.out.book.ext (ext_drewN wr 1)) htl).mono ?_
     rintro e w' ⟨rfl, hE'⟩
     rw [hW]
     have HEN := hid (Ext.tr HER.out (Ext.tr (ext_drewN wr 1) hE'))
     have HBN := hid (HSR.out.book.ext (Ext.tr (ext_drewN wr 1) hE'))
     go_wp2_with fail
     refine hK.out _ _ ⟨hE'.keep hS.1, hE'.keep hS.2.1, hE'.keep hS.2.2⟩ (fun hS1 => ?_)
     clear hK hS
     have hS := hS1
     clear hS1
     try clear K
     try simp only [put_some, List.set]
     refine wpT_takeN 7 (v := .bool false) rfl rfl (by kernel_rfl) (by kernel_rfl) (by kernel_rfl) (by kernel_rfl) (fun _ _ _ h => h) hS rfl (by intro w0 hw0; (try dsimp only at hw0); go_simp) ?_
     try simp only [List.set]
     refine tn 8 hS ?_
     try simp only [List.set]
     refine wpT_skipN 9 rfl rfl (by kernel_rfl) (by kernel_rfl) (by kernel_rfl) (by kernel_rfl) (fun _ _ _ h => h) hS rfl ?_
     try simp only [List.set]
     refine wpT_skipN 10 rfl rfl (by kernel_rfl) (by kernel_rfl) (by kernel_rfl) (by kernel_rfl) (fun _ _ _ h => h) hS rfl ?_
     try simp only [List.set]
     refine wpT_skipN 11 rfl rfl (by kernel_rfl) (by kernel_rfl) (by kernel_rfl) (by kernel_rfl) (fun _ _ _ h => h) hS rfl ?_
     try simp only [List.set]
     refine wpT_skipN 12 rfl rfl (by kernel_rfl) (by kernel_rfl) (by kernel_rfl) (by kernel_rfl) (fun _ _ _ h => h) hS rfl ?_
     try simp only [List.set]
     refine wpT_skipN 13 rfl rfl (by kernel_rfl) (by kernel_rfl) (by kernel_rfl) (by kernel_rfl) (fun _ _ _ h => h) hS rfl ?_
     try simp only [List.set]
     refine wpT_skipN 14 rfl rfl (by kernel_rfl) (by kernel_rfl) (by kernel_rfl) (by kernel_rfl) (fun _ _ _ h => h) hS rfl ?_
     try simp only [List.set]
     refine wpT_skipN 15 rfl rfl (by kernel_rfl) (by kernel_rfl) (by kernel_rfl) (by kernel_rfl) (fun _ _ _ h => h) hS rfl ?_
     try simp only [List.set]
     refine tn 16 hS ?_
     try simp only [List.set]
     refine wpT_done (by kernel_rfl) ?_ _
     clear hS hW hE'
     go_wp2
     go_roundw
     case rel => exact ⟨j + 1, HJ.out, by go_num, HEN.out⟩
     case measure => simp [intOf]; omega
  ·have hk5' : ((k : Int) == 5) = false := by rw [beq_eq_false_iff_ne]; omega
   go_wp2_with (go_at_call 16; refine (wBook_same b g1 g2 x1 x2 e1 e2 y1 y2 w9 HS9.out.out HS9.out.book).mono ?_; rintro e wa ⟨rfl, hEa⟩)
   exact ⟨rfl, _, resultsC_tmp (t := 2) rfl _, rfl, HS9.out.grew.tr (Grew.of hEa)⟩
end
section
open Go.RowKit Go.Deep Go.ChangeShapes Go.WideShapes Go.Joins
theorem Tryz.cellsU8 : Tryz.prog.cellsOf 5 = 1 := by kernel_rfl
theorem Tryz.bytesU8 : Tryz.prog.bytesOf 5 = 1 := by kernel_rfl
set_option maxRecDepth 100000 in
theorem open_code {H : Type} {enc : TypeId × Value → H} {W : World} {b0 : Nat} {v : Value} {d : DataW H} {p : List MemPlace} (hv : Value.okWide Tryz.prog W .any b0 22 v) (h : DataW.Trod enc Tryz.prog W 0 (fun _ => true) true 22 v d p)
  (hw : ∀ n, n ∈ DataW.weights Tryz.prog 22 d → n ≤ 140737488351232) : ∃ a n c, v = .slice a n c ∧ BytesAt W a n ∧ n ≤ c ∧ c ≤ 140737488355328 := by
 obtain ⟨a1, len, cap, rfl⟩ := okWide_slice Tryz.underlying22 hv
 obtain ⟨fuel, hf⟩ := h
 rcases open_ints Tryz.underlying22 Tryz.underlying5 Tryz.cellsU8 hf with ⟨hcs, hx⟩ | ⟨a, len', cap', zs, hcs, _, hl, hm, hz, hx, hcell, hwz⟩
 ·simp [Value.cells] at hcs
  obtain ⟨rfl, rfl, rfl⟩ := hcs
  exact ⟨none, 0, 0, rfl, fun i hi => by omega, Nat.le_refl _, by omega⟩
 ·simp [Value.cells] at hcs
  obtain ⟨rfl, rfl, rfl⟩ := hcs
  simp only [Prod.mk.injEq] at hx
  obtain ⟨rfl, _⟩ := hx
  simp only [if_true] at hz
  have hcap : cap ≤ 140737488351232 := by
   have h1 := hw ((len + (cap - len)) * 1) (by
    simp [DataW.weights, Tryz.underlying22, Tryz.bytesU8, lits, hz]
    try omega)
   omega
  refine ⟨some a, len, cap, rfl, fun i hi => ?_, hl, by omega⟩
  have hc := hcell i (by omega)
  obtain ⟨ab, ao, rfl⟩ : ∃ b o, a = ⟨b, o, none⟩ := by
   have h0 := hcell 0 (by omega)
   have e0 : a.add 0 = a := by simp [Addr.add]
   rw [e0] at h0
   exact ⟨_, _, plain_addr h0⟩
  have hb := range_u8 hwz i
  rw [List.getD_eq_getElem?_getD] at hc
  refine ⟨ab, ao, rfl, (zs[i]?.getD 0).toNat, by omega, ?_⟩
  have e : (⟨ab, ao, none⟩ : Addr).add i = ⟨ab, ao + i, none⟩ := by
   unfold Addr.add
   split
   ·rename_i h; simp_all
   ·rfl
  rw [e] at hc
  rw [hc]
  congr 2
  omega
end
section
open Go
theorem holds_tied_goes (Lk : Looks) {p : Pinned} {s : OpenSpec} {c : OpenClaim} (kinds : List LaidKind) (tests : Bool) (har : Bool × String) (lk : Bool)
  (hc : c.holds p s) (hw : c.wfByText s = true) (htie : c.laidByTextAt Lk p kinds tests)
  (hst : c.start = .entering) (hnb : c.noBlocks = false ∧ c.again = false) (hm : p.checked.prog.mainIs = some (har.1, har.2.toList)) (hn : (!har.1 && har.2.isEmpty && !lk) = false)
  (hl : ∀ f fn, p.checked.prog.funcNamed c.func = some f → p.checked.prog.funcs[f]? = some fn → lk = p.checked.prog.looks [] ∧ ∀ (j : Nat) t, fn.params[j]? = some t → p.checked.prog.wantsStandIn t = false)
  (hg : true = c.goesBy p.checked.prog) :
  Claim7.holds p (.plain s) { stood := { row := c, standIns := [], harness := har, looks := lk }, kinds := [], alts := [], goes := true, laidByText := true, laidKinds := kinds, laidTests := tests, laidLooks := Lk } := by
 have h6 : ∀ r : OpenClaim, Claim7.isSixth { stood := { row := r, standIns := [], harness := har, looks := lk }, kinds := [] } = false := fun r => by simpa [Claim7.isSixth] using hn
 exact ⟨Claim7.tied_new_at Lk kinds tests (Claim7.new_of_sixth hc har lk hst hnb hm (h6 c) hl) hw, fun D hD => by (cases hD), htie, (fun h => by cases h), hg⟩
end
end Go.Proofs.YtdafpnpfcmgfcaaGreatDoor
