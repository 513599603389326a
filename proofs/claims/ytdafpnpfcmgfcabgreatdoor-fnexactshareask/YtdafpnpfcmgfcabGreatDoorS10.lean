/- The walk over the specification's ShareAsk. -/
import Derived.Test.YtdafpnpfcmgfcabGreatDoorS9
import Derived.Test.YtdafpnpfcmgfcabGreatDoorMB
namespace Go.Proofs.YtdafpnpfcmgfcabGreatDoor
open Go.RowKit
attribute [local go_sem] S_toList S_size S_get

/-- A copy of a book, in a box of its own, all new since w. -/
structure YS (w wc : World) (b : Book) (x1 x2 : Option Addr) (y1 y2 X : Nat) : Prop where
  ext : Ext w wc
  rx : Rec wc X 30 [.slice x1 b.things.length y1, .slice x2 b.batches.length y2]
  o1 : OwnL wc w.heap.size (.slice x1 b.things.length y1) b.things
  o2 : OwnBs wc w.heap.size (.slice x2 b.batches.length y2) b.batches
  hx : w.heap.size ≤ X
theorem YS.mk' {w w1 : World} {b : Book} {x1 x2 : Option Addr} {y1 y2 : Nat} (h : Ext w w1) (o1 : OwnL w1 w.heap.size (.slice x1 b.things.length y1) b.things) (o2 : OwnBs w1 w.heap.size (.slice x2 b.batches.length y2) b.batches) :
    YS w (w1.alloc (.cells #[.slice x1 b.things.length y1, .slice x2 b.batches.length y2] 30)) b x1 x2 y1 y2 w1.heap.size :=
  ⟨Ext.tr h (ext_alloc _ _), Rec.new w1 _ _, o1.ext (ext_alloc _ _), o2.ext (ext_alloc _ _), h.size⟩
theorem YS.next {w wc wd : World} {b : Book} {x1 x2 : Option Addr} {y1 y2 X : Nat} (h : YS w wc b x1 x2 y1 y2 X) (e : Ext wc wd) : YS w wd b x1 x2 y1 y2 X :=
  ⟨Ext.tr h.ext e, h.rx.ext e, h.o1.ext e, h.o2.ext e, h.hx⟩
theorem YS.store {w wc : World} {b b' : Book} {x1 : Option Addr} {g y1 y2 X i : Nat} {u : Value} (h : YS w wc b x1 (some ⟨g, 0, none⟩) y1 y2 X) (ht : b'.things = b.things) (hn : b'.batches.length = b.batches.length) (h2 : OwnBs (wc.setCell ⟨g, i, none⟩ u) w.heap.size (.slice (some ⟨g, 0, none⟩) b.batches.length y2) b'.batches) :
    YS w (wc.setCell ⟨g, i, none⟩ u) b' x1 (some ⟨g, 0, none⟩) y1 y2 X := by
  obtain ⟨rs, k1, k2⟩ := h.o2
  rw [← k2.1] at k1
  have hg : w.heap.size ≤ g := by
    rcases h.o2.shape with ⟨e, _⟩ | ⟨g', e, _, _, hb⟩
    · cases e
    · cases e; exact hb
  have hxg : ∀ {Y : Nat} {l : List Value}, Rec wc Y 30 l → some Y ≠ some g := fun {Y l} hr e => hr.not_row rfl k1 (by rw [e]; rfl)
  refine ⟨h.ext.setCell hg _, ?_, ?_, ?_, h.hx⟩
  · rw [ht, hn]; exact h.rx.kept (gb_store _ _ _ _) (hxg h.rx)
  · rw [ht]; exact own_store_keep k1 h.o1 _ _
  · rw [hn]; exact h2
theorem YS.at {w wc : World} {b : Book} {x1 x2 : Option Addr} {y1 y2 X : Nat} (h : YS w wc b x1 x2 y1 y2 X) (hs : ShortS b.things) (hn : b.batches.length ≤ 2199023255552) : BookAt wc x1 x2 b := own_book_at h.o1 hs h.o2 hn

def giveTo (b : Book) (k : Nat) (l : List Str) : Book := ⟨b.things, b.batches.set k ⟨(nthB b.batches k).name, l.foldl insS (nthB b.batches k).has, (nthB b.batches k).needs⟩⟩
theorem giveTo_nil {b : Book} {k : Nat} (h : k < b.batches.length) : giveTo b k [] = b := by
  unfold giveTo
  have e : (⟨(nthB b.batches k).name, (nthB b.batches k).has, (nthB b.batches k).needs⟩ : Batch) = b.batches[k] := by rw [nthB_get h]
  rw [List.foldl_nil, e, List.set_getElem_self]
theorem giveTo_has {b : Book} {k : Nat} {l : List Str} (h : k < b.batches.length) : (nthB (giveTo b k l).batches k).has = l.foldl insS (nthB b.batches k).has := by
  unfold giveTo
  rw [nthB_get (by simpa using h)]; simp
theorem giveTo_step {b : Book} {k : Nat} {l L : List Str} (h : k < b.batches.length) : (giveTo b k l).batches.set k ⟨(nthB (giveTo b k l).batches k).name, L, (nthB (giveTo b k l).batches k).needs⟩ = b.batches.set k ⟨(nthB b.batches k).name, L, (nthB b.batches k).needs⟩ := by
  unfold giveTo
  rw [nthB_get (l := b.batches.set k _) (by simpa using h)]; simp
theorem insS_len (l : List Str) (n : Str) : (insS l n).length ≤ l.length + 1 := by
  unfold insS
  split
  · omega
  · rw [List.length_append, List.length_append, List.length_take, List.length_drop, List.length_singleton]; omega
theorem fold_len : ∀ (t l : List Str) {m : Nat}, t.length ≤ m → (t.foldl insS l).length ≤ l.length + m
  | [], l, m, _ => by simp
  | x :: t, l, m, h => by
    rw [List.foldl_cons]
    have h1 := fold_len t (insS l x) (m := m - 1) (by simp at h; omega)
    have h2 := insS_len l x
    simp at h
    omega
theorem short_iff {l : List Str} : ShortL l ↔ ∀ x ∈ l, x.length ≤ 140737488355328 := by
  constructor
  · intro h x hx
    obtain ⟨i, hi, e⟩ := List.getElem_of_mem hx
    rw [← e, ← nth_get hi]; exact h i hi
  · intro h i hi
    rw [nth_get hi]; exact h _ (List.getElem_mem hi)
theorem insS_mem {l : List Str} {n x : Str} (h : x ∈ insS l n) : x ∈ l ∨ x = n := by
  unfold insS at h
  split at h
  · exact Or.inl h
  · rw [List.mem_append, List.mem_append] at h
    rcases h with (h | h) | h
    · exact Or.inl (List.mem_of_mem_take h)
    · simp at h; exact Or.inr h
    · exact Or.inl (List.mem_of_mem_drop h)
theorem fold_mem : ∀ (t l : List Str) {x : Str}, x ∈ t.foldl insS l → x ∈ l ∨ x ∈ t
  | [], l, x, h => Or.inl h
  | y :: t, l, x, h => by
    rw [List.foldl_cons] at h
    rcases fold_mem t _ h with h1 | h1
    · rcases insS_mem h1 with h2 | h2
      · exact Or.inl h2
      · exact Or.inr (by rw [h2]; exact List.mem_cons_self)
    · exact Or.inr (List.mem_cons_of_mem _ h1)
theorem fold_short {t l : List Str} (hl : ShortL l) (ht : ∀ x ∈ t, x.length ≤ 140737488355328) : ShortL (t.foldl insS l) := by
  rw [short_iff] at hl ⊢
  intro x hx
  rcases fold_mem t l hx with h | h
  · exact hl x h
  · exact ht x h
theorem insS_short {l : List Str} {n : Str} (hl : ShortS l) (h1 : l.length + 1 ≤ 8796093022208) (hn : n.length ≤ 140737488355328) : ShortS (insS l n) := by
  refine ⟨Nat.le_trans (insS_len l n) h1, ?_⟩
  rw [short_iff]
  intro x hx
  rcases insS_mem hx with h | h
  · exact short_iff.1 hl.2 x h
  · rw [h]; exact hn

set_option maxRecDepth 100000 in
set_option maxHeartbeats 2000000 in
theorem specAsk_any (b : Book) (n : Str) (things : List Str) (a1 a2 a3 : Option Addr) (c1 c2 c3 : Nat) (w : World) (hb : BookAt w a1 a2 b) (hns : StrsAt w a3 things) :
    Calls Tryz.prog 8 #[.agg #[.slice a1 b.things.length c1, .slice a2 b.batches.length c2], .string (S n), .slice a3 things.length c3] w fun e w' => BookRes w (askB b n things) e w' := by
  have e2 : ∀ o1 o2, Ext w ((w.alloc o1).alloc o2) := fun o1 o2 => ((Below.refl _ _).alloc (Nat.le_refl _) _).alloc (by simp) _
  have hbn := hb.2.1
  go_enter Tryz.func8, Tryz.ntmps8
  go_wp2_with fail
  refine (specBookOk_any b _ _ _ _ _ (hb.ext (e2 _ _))).mono ?_
  rintro e w1 ⟨rfl, hE1⟩
  have hx0 : w1.cell? ⟨w.heap.size, 0, none⟩ = some (.slice a1 b.things.length c1) := (hE1.cell (p := ⟨w.heap.size, 0, none⟩) (by simp; omega)).trans (by simp)
  have hx1 : w1.cell? ⟨w.heap.size, 1, none⟩ = some (.slice a2 b.batches.length c2) := (hE1.cell (p := ⟨w.heap.size, 1, none⟩) (by simp; omega)).trans (by simp)
  have hx2 : w1.cell? ⟨w.heap.size + 1, 0, none⟩ = some (.slice none 0 0) := (hE1.cell (p := ⟨w.heap.size + 1, 0, none⟩) (by simp)).trans (by simp)
  have hx3 : w1.cell? ⟨w.heap.size + 1, 1, none⟩ = some (.slice none 0 0) := (hE1.cell (p := ⟨w.heap.size + 1, 1, none⟩) (by simp)).trans (by simp)
  have HR1 : Hid (Rec w1 (w.heap.size + 1) 30 [.slice none 0 0, .slice none 0 0]) := by
    have h := (Rec.new (w.alloc (.cells #[.slice a1 b.things.length c1, .slice a2 b.batches.length c2] 30)) 30 [.slice none 0 0, .slice none 0 0]).ext hE1
    have h' : Rec w1 (w.heap.size + 1) 30 [.slice none 0 0, .slice none 0 0] := by simpa using h
    exact h'
  have HE1 := hid hE1
  have HEW := hid (Ext.tr (e2 _ _) hE1)
  clear hE1
  cases hok : bookOk b
  · have hf2 := HR1.out.frozen 0
    have hf3 := HR1.out.frozen 1
    have HF : Hid (askB b n things = (emptyBook, 1)) := by show _ = _; simp [askB, hok]
    go_wp2
    rw [HF.out]
    refine bodyPost_ret (v := .tuple #[.agg #[.slice none 0 0, .slice none 0 0], .int .i64 1]) (by simp [results, Tryz.results8, go_sem, hx2, hx3]) rfl ⟨none, 0, none, 0, rfl, ?_, StrsAt.nil _ _, by simp [emptyBook], fun i hi => by simp [emptyBook] at hi⟩
    exact (HEW.out.setCell (by simp) _).setCell (by simp) _
  · go_wp2_with fail
    refine (l1Copy_any b _ _ _ _ _ (hb.ext HEW.out)).mono ?_
    rintro e w2 ⟨v1, v2, rfl, hE2, ho1, ho2⟩
    obtain ⟨x1, y1, rfl⟩ := own_sl ho1
    obtain ⟨x2, y2, rfl⟩ := ho2.len
    have HS := hid (EnS.mk' HE1.out hE2 ho1 ho2)
    have hx20 := HS.out.rb.cell (i := 0) rfl
    have hx21 := HS.out.rb.cell (i := 1) rfl
    clear ho1 ho2 hx0 hx1 hx2 hx3 HR1 HE1 hE2
    go_wp2_with fail
    clear hx20 hx21
    generalize w2.alloc (.cells #[.slice x1 b.things.length y1, .slice x2 b.batches.length y2] 30) = w3 at HS ⊢
    generalize w2.heap.size = X at HS ⊢
    clear HEW
    refine (l1At_any b n _ _ _ _ _ (hb.ext HS.out.ext)).mono ?_
    rintro e w5 ⟨hres, hE5⟩
    have HS5 := hid (HS.out.next hE5)
    clear hE5 HS
    obtain ⟨p0, p1, t0, t1, f0, f1, q0, q1⟩ := HS5.out.facts
    rcases hres with ⟨k, rfl, hfa⟩ | ⟨rfl, hno⟩
    · have hh : hereB b n = true := hasB_of hfa.1 hfa.2.1
      have hw : whereB b n = k := place_of hfa
      have hkl : k < b.batches.length := by have := hfa.1; rwa [namesOf_length] at this
      have hb5 := hb.ext HS5.out.ext
      have hns5 := hns.ext HS5.out.ext
      obtain ⟨ba, oa, rfl, hl, d1, g1, d2, g2, z0, z1, z2, s1, s2⟩ := hb5.2.2 k hkl
      have hsh := s1.short
      cases hnd : namesOk things (nthB b.batches k).needs
      · have HF : Hid (askB b n things = (b, 2)) := by show _ = _; simp [askB, hok, hh, hw, Book.at, hnd]
        go_wp2_with (first | (go_at_call 25; refine (l1NamesOk_v _ _ _ _ _ _ _ _ hns5 s2 hnd).mono ?_; rintro e w' ⟨rfl, n4, rfl⟩))
        refine bodyPost_ret (v := .tuple #[.agg #[.slice x1 b.things.length y1, .slice x2 b.batches.length y2], .int .i64 2]) (by simp [results, Tryz.results8, go_sem, t0, t1]) rfl (BookRes.mk HF.out ((HS5.out.next (ext_drewN _ n4)).fin hb _ _))
      · have hlens : (nthB b.batches k).has.length + things.length ≤ 16 := by
          have h1 := (ok_lens hok hkl).2.1
          have h2 := (ok_lens hok hkl).1
          have h3 := namesOk_len hnd
          simp only [Book.at] at h1 h2
          omega
        go_upto_region 9 with (first | (go_at_call 25; refine (l1NamesOk_v _ _ _ _ _ _ _ _ hns5 s2 hnd).mono ?_; rintro e w' ⟨rfl, n4, rfl⟩))
        have HS6 := hid (HS5.out.next (ext_drewN w5 n4))
        clear HS5 p0 p1 t0 t1 f0 f1 q0 q1 hb5 hns5 z0 z1 z2 s1 s2
        generalize w5.drewN n4 = w6 at HS6 ⊢
        obtain ⟨p0, p1, t0, t1, f0, f1, q0, q1⟩ := HS6.out.facts
        go_wp2_with fail
        refine (l3Taken_any b k things _ _ _ _ _ _ _ (hb.ext HS6.out.ext) (hns.ext HS6.out.ext) hkl).mono ?_
        rintro e w7 ⟨rfl, hE7⟩
        have HS7 := hid (HS6.out.next hE7)
        clear HS6 hE7 p0 p1 t0 t1 f0 f1 q0 q1
        obtain ⟨p0, p1, t0, t1, f0, f1, q0, q1⟩ := HS7.out.facts
        cases htk : takenB b k things
        · go_wp2_with fail
          refine (l1Copy_any b _ _ _ _ _ (hb.ext HS7.out.ext)).mono ?_
          rintro e w8 ⟨v1, v2, rfl, hE8, ho1, ho2⟩
          obtain ⟨u1, r1, rfl⟩ := own_sl ho1
          obtain ⟨u2, r2, rfl⟩ := ho2.len
          have HY := hid (YS.mk' hE8 ho1 ho2)
          clear ho1 ho2
          have hx20 := HY.out.ext.keep p0
          have hx21 := HY.out.ext.keep p1
          rcases HY.out.o2.shape with ⟨rfl, h0, rfl⟩ | ⟨g, rfl, hcap, hcm, hgb⟩
          · omega
          · clear p0 p1 t0 t1 f0 f1 q0 q1
            go_wp2_with fail
            clear hx20 hx21
            generalize w8.alloc (.cells #[.slice u1 b.things.length r1, .slice (some ⟨g, 0, none⟩) b.batches.length r2] 30) = w9 at HY ⊢
            generalize w8.heap.size = Y at HY ⊢
            clear hE8
            go_loopw [11] (fun i wr => ∃ j : Nat, j ≤ things.length ∧ i = .int .i64 j ∧ YS w7 wr (giveTo b k (things.take j)) u1 (some ⟨g, 0, none⟩) r1 r2 Y) (fun i _ => things.length - (intOf i).toNat)
            case atStart => exact ⟨0, Nat.zero_le _, rfl, by rw [List.take_zero, giveTo_nil hkl]; exact HY.out⟩
            case round =>
              clear HY
              obtain ⟨j, hj, rfl, hys⟩ := hrel
              have HY := hid hys
              clear hys
              have hgl : (giveTo b k (things.take j)).batches.length = b.batches.length := by simp [giveTo]
              have hgt : (giveTo b k (things.take j)).things = b.things := rfl
              have HSr := hid (HS7.out.next HY.out.ext)
              have hnsr := hns.ext HSr.out.ext
              have y0 : wr.cell? ⟨Y, 0, none⟩ = some (.slice u1 b.things.length r1) := HY.out.rx.cell rfl
              have y1' : wr.cell? ⟨Y, 1, none⟩ = some (.slice (some ⟨g, 0, none⟩) b.batches.length r2) := by rw [← hgl]; exact HY.out.rx.cell rfl
              have hzr := HY.out.ext.size
              by_cases hlt : j < things.length
              · obtain ⟨hln, bb, oo, rfl, hc⟩ := hnsr.2 j hlt
                have hkg : k < (giveTo b k (things.take j)).batches.length := by rw [hgl]; exact hkl
                obtain ⟨⟨uh, huh, hoh⟩, _, hf1, _⟩ := HY.out.o2.cells hkg
                have hhas : (nthB (giveTo b k (things.take j)).batches k).has = (things.take j).foldl insS (nthB b.batches k).has := giveTo_has hkl
                rw [hhas] at hoh
                obtain ⟨ah, ch, rfl⟩ := own_sl hoh
                have hfl : ((things.take j).foldl insS (nthB b.batches k).has).length ≤ (nthB b.batches k).has.length + j := fold_len _ _ (by rw [List.length_take]; omega)
                have hfs : ShortS ((things.take j).foldl insS (nthB b.batches k).has) := ⟨by omega, fold_short hsh.2 (fun x hx => by
                  obtain ⟨i, hi, e⟩ := List.getElem_of_mem (List.mem_of_mem_take hx)
                  rw [← e, ← nth_get hi]
                  exact (hns.2 i hi).1)⟩
                clear HSr
                go_wp2_with fail
                refine wp_region_T (fun w' => w'.cell? ⟨Y, 1, none⟩ = some (.slice (some ⟨g, 0, none⟩) b.batches.length r2) ∧ w'.cell? ⟨g, k * 3 + 1, none⟩ = some (.slice ah ((things.take j).foldl insS (nthB b.batches k).has).length ch) ∧ w'.cell? ⟨bb, oo + j, none⟩ = some (.string (S (nth things j)))) 16 (by kernel_rfl) ⟨y1', huh, hc⟩ (fun hS => ?_)
                refine wpT_take 0 (v := ?_) rfl rfl (by kernel_rfl) (by kernel_rfl) (by kernel_rfl) (by kernel_rfl) (fun _ _ _ h => h) hS rfl (by intro w0 hw0; (try dsimp only at hw0); go_simp; try rfl) ?_
                try simp only [List.set]
                refine wpT_take 1 (v := ?_) rfl rfl (by kernel_rfl) (by kernel_rfl) (by kernel_rfl) (by kernel_rfl) (fun _ _ _ h => h) hS rfl (by intro w0 hw0; (try dsimp only at hw0); go_simp; try rfl) ?_
                try simp only [List.set]
                refine wpT_take 2 (v := ?_) rfl rfl (by kernel_rfl) (by kernel_rfl) (by kernel_rfl) (by kernel_rfl) (fun _ _ _ h => h) hS rfl (by intro w0 hw0; (try dsimp only at hw0); go_simp; try rfl) ?_
                try simp only [List.set]
                refine wpT_take 3 (v := ?_) rfl rfl (by kernel_rfl) (by kernel_rfl) (by kernel_rfl) (by kernel_rfl) (fun _ _ _ h => h) hS rfl (by intro w0 hw0; (try dsimp only at hw0); go_simp; try rfl) ?_
                try simp only [List.set]
                refine wpT_take 4 (v := ?_) rfl rfl (by kernel_rfl) (by kernel_rfl) (by kernel_rfl) (by kernel_rfl) (fun _ _ _ h => h) hS rfl (by intro w0 hw0; (try dsimp only at hw0); go_simp; try rfl) ?_
                try simp only [List.set]
                refine wpT_take 5 (v := ?_) rfl rfl (by kernel_rfl) (by kernel_rfl) (by kernel_rfl) (by kernel_rfl) (fun _ _ _ h => h) hS rfl (by intro w0 hw0; (try dsimp only at hw0); go_simp; try rfl) ?_
                try simp only [List.set]
                refine wpT_take 6 (v := ?_) rfl rfl (by kernel_rfl) (by kernel_rfl) (by kernel_rfl) (by kernel_rfl) (fun _ _ _ h => h) hS rfl (by intro w0 hw0; (try dsimp only at hw0); go_simp; try rfl) ?_
                try simp only [List.set]
                refine wpT_take 7 (v := ?_) rfl rfl (by kernel_rfl) (by kernel_rfl) (by kernel_rfl) (by kernel_rfl) (fun _ _ _ h => h) hS rfl (by intro w0 hw0; (try dsimp only at hw0); go_simp; try rfl) ?_
                try simp only [List.set]
                refine wpT_take 8 (v := ?_) rfl rfl (by kernel_rfl) (by kernel_rfl) (by kernel_rfl) (by kernel_rfl) (fun _ _ _ h => h) hS rfl (by intro w0 hw0; (try dsimp only at hw0); go_simp; try rfl) ?_
                try simp only [List.set]
                refine wpT_take 9 (v := ?_) rfl rfl (by kernel_rfl) (by kernel_rfl) (by kernel_rfl) (by kernel_rfl) (fun _ _ _ h => h) hS rfl (by intro w0 hw0; (try dsimp only at hw0); go_simp; try rfl) ?_
                try simp only [List.set]
                refine wpT_take 10 (v := ?_) rfl rfl (by kernel_rfl) (by kernel_rfl) (by kernel_rfl) (by kernel_rfl) (fun _ _ _ h => h) hS rfl (by intro w0 hw0; (try dsimp only at hw0); go_simp; try rfl) ?_
                try simp only [List.set]
                refine wpT_take 11 (v := ?_) rfl rfl (by kernel_rfl) (by kernel_rfl) (by kernel_rfl) (by kernel_rfl) (fun _ _ _ h => h) hS rfl (by intro w0 hw0; (try dsimp only at hw0); go_simp; try rfl) ?_
                try simp only [List.set]
                refine wpT_take 12 (v := ?_) rfl rfl (by kernel_rfl) (by kernel_rfl) (by kernel_rfl) (by kernel_rfl) (fun _ _ _ h => h) hS rfl (by intro w0 hw0; (try dsimp only at hw0); go_simp; try rfl) ?_
                try simp only [List.set]
                refine wpT_one 13 rfl (by kernel_rfl) rfl rfl (fun K hK => ?_)
                go_simp
                refine (l3Insert_any _ _ w7.heap.size _ (nth things j) _ (hoh.ext (ext_drewN wr 1)) hfs (by omega) hln hzr).mono ?_
                rintro e wC ⟨vC, rfl, hEC, hoC⟩
                obtain ⟨xC, yC, rfl⟩ := own_sl hoC
                go_wp2_with fail
                refine hK.out _ _ ⟨hEC.keep hS.1, hEC.keep hS.2.1, hEC.keep hS.2.2⟩ (fun hS1 => ?_)
                clear hK hS
                have hS := hS1
                clear hS1
                try clear K
                try simp only [put_some, List.set]
                refine wpT_one 14 rfl (by kernel_rfl) rfl rfl (fun K hK => ?_)
                go_simp
                refine hK.out _ _ hS (fun hS1 => ?_)
                clear hK hS
                have hS := hS1
                clear hS1
                try clear K
                try simp only [put_some, List.set]
                refine wpT_one 15 rfl (by kernel_rfl) rfl rfl (fun K hK => ?_)
                go_simp
                refine hK.out _ _ hS (fun hS1 => ?_)
                clear hK hS
                have hS := hS1
                clear hS1
                try clear K
                try simp only [put_some, List.set]
                have HYC := hid ((HY.out.next (ext_drewN wr 1)).next hEC)
                have hf1C := (HYC.out.o2.cells hkg).2.2.1
                have hcC := hS.2.1
                have htk1 : (things.take (j + 1)).foldl insS (nthB b.batches k).has = insS ((things.take j).foldl insS (nthB b.batches k).has) (nth things j) := by
                  rw [List.take_succ_eq_append_getElem hlt, List.foldl_append, nth_get hlt]; rfl
                have hshort : ShortS (insS ((things.take j).foldl insS (nthB b.batches k).has) (nth things j)) := insS_short hfs (by omega) hln
                have hgb1 : (giveTo b k (things.take (j + 1))).batches = b.batches.set k ⟨(nthB b.batches k).name, insS ((things.take j).foldl insS (nthB b.batches k).has) (nth things j), (nthB b.batches k).needs⟩ := by unfold giveTo; rw [htk1]
                have HN := hid (HYC.out.store (i := k * 3 + 1) (u := .slice xC (insS ((things.take j).foldl insS (nthB b.batches k).has) (nth things j)).length yC) (b' := giveTo b k (things.take (j + 1))) rfl (by simp [giveTo]) (by
                  have h := HYC.out.o2.putHas rfl hkg hoC hshort
                  rw [giveTo_step hkl] at h
                  rw [hgb1]
                  exact h))
                clear hS hEC hoC HYC HY hoh huh hf1 hc y0 y1' htk1 hhas hgb1
                refine wpT_last rfl (by kernel_rfl) (by kernel_rfl) rfl (fun K hK => ?_)
                go_simp
                refine hK.out _ _ ?_
                clear hK
                go_wp2
                go_roundw
                case rel => exact ⟨j + 1, by omega, by go_num, HN.out⟩
                case measure => simp [intOf]; omega
              · have hje : j = things.length := by omega
                have hgv : giveTo b k (things.take j) = giveB b k things := by rw [hje, List.take_length]; rfl
                rw [hgv] at HY hgl hgt
                have hbY := HY.out.at hb.1.short (by rw [hgl]; exact hbn)
                obtain ⟨p0, p1, t0, t1, f0, f1, q0, q1⟩ := HSr.out.facts
                go_wp2_with fail
                refine (specSafe_any b _ _ _ _ _ (hb.ext HSr.out.ext)).mono ?_
                rintro e wD ⟨rfl, hED⟩
                have HSD := hid (HSr.out.next hED)
                have HYD := hid (HY.out.next hED)
                have yd0 := hED.keep y0
                have yd1 := hED.keep y1'
                clear HSr HY p0 p1 t0 t1 f0 f1 q0 q1 hED hbY y0 y1' hnsr
                obtain ⟨p0, p1, t0, t1, f0, f1, q0, q1⟩ := HSD.out.facts
                cases hs1 : safeB b
                · have HF : Hid (askB b n things = (giveB b k things, 0)) := by show _ = _; simp [askB, hok, hh, hw, Book.at, hnd, htk, hs1]
                  clear hs1
                  go_wp2_with fail
                  have hC := l1Copy_any (giveB b k things) u1 (some ⟨g, 0, none⟩) r1 r2 _ (HYD.out.at hb.1.short (by rw [hgl]; exact hbn))
                  rw [hgl] at hC
                  refine hC.mono ?_
                  clear hC
                  rintro e wG ⟨v1, v2, rfl, hEG, ho1, ho2⟩
                  obtain ⟨m1, z1', rfl⟩ := own_sl ho1
                  obtain ⟨m2, z2', rfl⟩ := ho2.len
                  have HEG := hid (Ext.tr HSD.out.ext hEG)
                  have HRG := hid (HSD.out.rr.ext hEG)
                  have HO1 := hid (ho1.low HSD.out.ext.size)
                  have HO2 := hid (ho2.low HSD.out.ext.size)
                  clear ho1 ho2 hEG HYD HSD p0 p1 t0 t1 f0 f1 q0 q1 yd0 yd1
                  have t0 := HRG.out.cell (i := 0) rfl
                  have t1 := HRG.out.cell (i := 1) rfl
                  have f0 := HRG.out.frozen 0
                  have f1 := HRG.out.frozen 1
                  go_wp2
                  refine bodyPost_ret (v := .tuple #[.agg #[.slice m1 (giveB b k things).things.length z1', .slice m2 (giveB b k things).batches.length z2'], .int .i64 0]) (by simp [results, Tryz.results8, go_sem, t0, t1, hgl, hgt]) rfl (BookRes.mk HF.out (stored_book (b := giveB b k things) HEG.out HRG.out (by omega) HO1.out hb.1.short HO2.out (by rw [hgl]; exact hbn) _ _))
                · go_wp2_with fail
                  have hCS := specSafe_any (giveB b k things) u1 (some ⟨g, 0, none⟩) r1 r2 _ (HYD.out.at hb.1.short (by rw [hgl]; exact hbn))
                  rw [hgl] at hCS
                  refine hCS.mono ?_
                  clear hCS
                  rintro e wE ⟨rfl, hEE⟩
                  have HSE := hid (HSD.out.next hEE)
                  have HYE := hid (HYD.out.next hEE)
                  have ye0 := hEE.keep yd0
                  have ye1 := hEE.keep yd1
                  clear HSD HYD p0 p1 t0 t1 f0 f1 q0 q1 hEE yd0 yd1
                  have HSD := HSE
                  have HYD := HYE
                  have yd0 := ye0
                  have yd1 := ye1
                  clear HSE HYE ye0 ye1
                  obtain ⟨p0, p1, t0, t1, f0, f1, q0, q1⟩ := HSD.out.facts
                  cases hs2 : safeB (giveB b k things)
                  · have HF : Hid (askB b n things = (b, 6)) := by show _ = _; simp [askB, hok, hh, hw, Book.at, hnd, htk, hs1, hs2]
                    clear hs1 hs2
                    go_wp2_with fail
                    refine bodyPost_ret (v := .tuple #[.agg #[.slice x1 b.things.length y1, .slice x2 b.batches.length y2], .int .i64 6]) (by simp [results, Tryz.results8, go_sem, t0, t1]) rfl (BookRes.mk HF.out (HSD.out.fin hb _ _))
                  · have HF : Hid (askB b n things = (giveB b k things, 0)) := by show _ = _; simp [askB, hok, hh, hw, Book.at, hnd, htk, hs1, hs2]
                    clear hs1 hs2
                    go_wp2_with fail
                    have hC := l1Copy_any (giveB b k things) u1 (some ⟨g, 0, none⟩) r1 r2 _ (HYD.out.at hb.1.short (by rw [hgl]; exact hbn))
                    rw [hgl] at hC
                    refine hC.mono ?_
                    clear hC
                    rintro e wG ⟨v1, v2, rfl, hEG, ho1, ho2⟩
                    obtain ⟨m1, z1', rfl⟩ := own_sl ho1
                    obtain ⟨m2, z2', rfl⟩ := ho2.len
                    have HEG := hid (Ext.tr HSD.out.ext hEG)
                    have HRG := hid (HSD.out.rr.ext hEG)
                    have HO1 := hid (ho1.low HSD.out.ext.size)
                    have HO2 := hid (ho2.low HSD.out.ext.size)
                    clear ho1 ho2 hEG HYD HSD p0 p1 t0 t1 f0 f1 q0 q1 yd0 yd1
                    have t0 := HRG.out.cell (i := 0) rfl
                    have t1 := HRG.out.cell (i := 1) rfl
                    have f0 := HRG.out.frozen 0
                    have f1 := HRG.out.frozen 1
                    go_wp2
                    refine bodyPost_ret (v := .tuple #[.agg #[.slice m1 (giveB b k things).things.length z1', .slice m2 (giveB b k things).batches.length z2'], .int .i64 0]) (by simp [results, Tryz.results8, go_sem, t0, t1, hgl, hgt]) rfl (BookRes.mk HF.out (stored_book (b := giveB b k things) HEG.out HRG.out (by omega) HO1.out hb.1.short HO2.out (by rw [hgl]; exact hbn) _ _))
        · have HF : Hid (askB b n things = (b, 5)) := by show _ = _; simp [askB, hok, hh, hw, Book.at, hnd, htk]
          go_wp2_with fail
          refine bodyPost_ret (v := .tuple #[.agg #[.slice x1 b.things.length y1, .slice x2 b.batches.length y2], .int .i64 5]) (by simp [results, Tryz.results8, go_sem, t0, t1]) rfl (BookRes.mk HF.out (HS7.out.fin hb _ _))
    · have HF : Hid (askB b n things = (b, 3)) := by
        have hh : hereB b n = false := hno
        show _ = _
        simp [askB, hok, hh]
      go_wp2_with fail
      refine bodyPost_ret (v := .tuple #[.agg #[.slice x1 b.things.length y1, .slice x2 b.batches.length y2], .int .i64 3]) (by simp [results, Tryz.results8, go_sem, t0, t1]) rfl (BookRes.mk HF.out (HS5.out.fin hb _ _))
end Go.Proofs.YtdafpnpfcmgfcabGreatDoor
