/- Going: a batch leaves. The walk over the program's ShareFits. The walk over the program's first: the first who can go. Moving, waiting, being stuck: what the law says of them. The walks over DrawShareMoves, DrawShareWaits and the specification's ShareStuck. -/
import Derived.Test.YtdafpnpfcmgfcaaGreatJJ
import Derived.Test.YtdafpnpfcmgfcaaGreatKJ
import Derived.Test.YtdafpnpfcmgfcaaGreatJL
import Derived.Test.YtdafpnpfcmgfcaaGreatWt1
import Derived.Test.YtdafpnpfcmgfcaaGreatJW
namespace Go.Proofs.YtdafpnpfcmgfcaaGreat
open Go.RowKit

set_option maxHeartbeats 1000000 in
theorem leave_any (w : World) (base g bg : Nat) (vh vn : Value) (has needs : List Nat) (gone : List Bool) (free p : Nat) (hst : GoingAt w base g bg vh vn has needs gone free)
    (h1 : p < has.length) (h3 : p < gone.length) (hf : free < 1024) (hh : bnth has p < 1024) :
    Calls Qry.prog 65 #[.pointer (some ⟨g, 0, none⟩), .int .i64 (p : Int)] w fun e w' => e = .returned (.tuple #[]) ∧
      w'.Alike ((w.setCell ⟨bg, p, none⟩ (.bool true)).setCell ⟨g, 3, none⟩ (.int .u64 ((free : Int) + (bnth has p : Int)))) ∧ w'.tape = w.tape := by
  obtain ⟨b1, k1, rfl, hb1, q1⟩ := own_bits hst.hrow h1
  have c0 := hst.cells.cell (i := 0) (by omega)
  have c1 := hst.cells.cell (i := 1) (by omega)
  have c2 := hst.cells.cell (i := 2) (by omega)
  have c3 := hst.cells.cell (i := 3) (by omega)
  simp only [goingCells] at c0 c1 c2 c3
  have r := hst.row.cell h3
  have fr := hst.row.frozen p
  have fg := hst.cells.frozen 3
  have hw : IntKind.u64.wrap ((free : Int) + (bnth has p : Int)) = (free : Int) + (bnth has p : Int) := wrapU (by omega) (by omega)
  have hne := hst.ne
  have hne1 : b1 ≠ bg := by have := hst.hbg; omega
  have hne2 : b1 ≠ g := by have := hst.hg; omega
  clear hst
  go_enter Qry.func65, Tryz.ntmps65
  go_wp2
  go_region
  all_goals (go_end0; exact ⟨rfl, ⟨rfl, rfl, rfl⟩, rfl⟩)

end Go.Proofs.YtdafpnpfcmgfcaaGreat
namespace Go.Proofs.YtdafpnpfcmgfcaaGreat
open Go.RowKit
attribute [local go_sem] S_toList S_size S_get

/-- The state of going, when some are gone. -/
def GoneAt (w : World) (base g bg : Nat) (vh vn : Value) (b : Book) (gone : List Str) : Prop :=
  ∃ gl : List Bool, gl.length = b.batches.length ∧ (∀ i, i < b.batches.length → gnth gl i = outOf b gone i) ∧ GoingAt w base g bg vh vn (hasBits b) (needsBits b) gl (freeN b (outOf b gone))

theorem GoneAt.ext {w w' : World} {base g bg : Nat} {vh vn : Value} {b : Book} {gone : List Str} (h : GoneAt w base g bg vh vn b gone) (e : Ext w w') : GoneAt w' base g bg vh vn b gone := by
  obtain ⟨gl, h1, h2, h3⟩ := h
  exact ⟨gl, h1, h2, h3.ext e⟩
theorem hasBits_len (b : Book) : (hasBits b).length = b.batches.length := by simp [hasBits]
theorem needsBits_len (b : Book) : (needsBits b).length = b.batches.length := by simp [needsBits]

theorem canGo_v {w : World} {base g bg : Nat} {vh vn : Value} {b : Book} {gone : List Str} {x : Str} {p : Nat} (v : Bool) (hst : GoneAt w base g bg vh vn b gone) (hok : bookOk b = true) (hp : place (namesOf b.batches) x = p) (hlt : p < b.batches.length)
    (hv : (!hasB gone x && canB b p gone) = v) :
    Calls Qry.prog 21 #[.pointer (some ⟨g, 0, none⟩), .int .i64 (p : Int)] w fun e w' => e = .returned (.bool v) ∧ ∃ n, w' = w.drewN n := by
  obtain ⟨gl, h1, h2, h3⟩ := hst
  have h8 := ok_things hok
  have hc := canGo_any w base g bg vh vn (hasBits b) (needsBits b) gl (freeN b (outOf b gone)) p h3 (by rw [hasBits_len]; exact hlt) (by rw [needsBits_len]; exact hlt) (by rw [h1]; exact hlt) (freeN_small b _ h8) (by rw [bnth_has hlt]; exact bitsN_small _ _ h8) (by rw [bnth_needs hlt]; exact bitsN_small _ _ h8)
  rw [go_step hok hp hlt gl (h2 p hlt), hv] at hc
  exact hc

theorem leave_v {w w0 : World} {base g bg : Nat} {vh vn : Value} {b : Book} {gone : List Str} {x : Str} {p : Nat} (hst : GoneAt w base g bg vh vn b gone) (hok : bookOk b = true) (hp : place (namesOf b.batches) x = p) (hlt : p < b.batches.length)
    (hx : hasB gone x = false) (hw : Ext w0 w) (hg : w0.heap.size ≤ g) (hbg : w0.heap.size ≤ bg) :
    Calls Qry.prog 65 #[.pointer (some ⟨g, 0, none⟩), .int .i64 (p : Int)] w fun e w' => e = .returned (.tuple #[]) ∧ Ext w0 w' ∧ GoneAt w' base g bg vh vn b (gone ++ [x]) := by
  obtain ⟨gl, h1, h2, h3⟩ := hst
  have h8 := ok_things hok
  refine (leave_any w base g bg vh vn (hasBits b) (needsBits b) gl (freeN b (outOf b gone)) p h3 (by rw [hasBits_len]; exact hlt) (by rw [h1]; exact hlt) (freeN_small b _ h8) (by rw [bnth_has hlt]; exact bitsN_small _ _ h8)).mono ?_
  rintro e w' ⟨he, hal, htape⟩
  refine ⟨he, ?_, gl.set p true, by simp [h1], fun i hi => ?_, ?_⟩
  · have hx := (hw.setCell (p := ⟨bg, p, none⟩) hbg (.bool true)).setCell (p := ⟨g, 3, none⟩) hg (.int .u64 ((freeN b (outOf b gone) : Int) + (bnth (hasBits b) p : Int)))
    exact ⟨hal.2.1.trans hx.os, htape.trans hw.tape, hal.2.2.trans hx.output, by rw [hal.1]; exact hx.size, fun k hk => by rw [hal.1]; exact hx.block k hk⟩
  · rw [gnth_set _ _ _ (by rw [h1]; exact hlt), out_step hok hp hlt hi, h2 i hi]; rfl
  · rw [free_go hok hp hlt hx]
    exact h3.left (by rw [h1]; exact hlt) hal

theorem slicesIndex_yes (a : Option Addr) (cap : Nat) (ss : List Str) (x : Str) (p : Nat) (w : World) (hs : StrsAt w a ss) (hp : place ss x = p) (hlt : p < ss.length) :
    Calls Qry.prog 96 #[.slice a ss.length cap, .string (S x)] w fun e w' => e = .returned (.int .i64 (p : Nat)) ∧ w' = w := by
  refine (slicesIndex_any a cap ss x w hs).mono ?_
  rintro e w' ⟨(⟨k, rfl, hk⟩ | ⟨rfl, hk⟩), hw⟩
  · rw [place_of hk] at hp; rw [hp]; exact ⟨rfl, hw⟩
  · rw [place_no hk] at hp; omega
theorem slicesIndex_no (a : Option Addr) (cap : Nat) (ss : List Str) (x : Str) (w : World) (hs : StrsAt w a ss) (hlt : ¬ place ss x < ss.length) :
    Calls Qry.prog 96 #[.slice a ss.length cap, .string (S x)] w fun e w' => e = .returned (.int .i64 (-1)) ∧ w' = w := by
  refine (slicesIndex_any a cap ss x w hs).mono ?_
  rintro e w' ⟨(⟨k, rfl, hk⟩ | ⟨rfl, hk⟩), hw⟩
  · rw [place_of hk] at hlt; exact absurd hk.1 hlt
  · exact ⟨rfl, hw⟩
end Go.Proofs.YtdafpnpfcmgfcaaGreat
namespace Go.Proofs.YtdafpnpfcmgfcaaGreat
open Go.RowKit

theorem place_self {b : Book} (h : bookOk b = true) {p : Nat} (hp : p < b.batches.length) : place (namesOf b.batches) (b.at p).name = p := by
  have hm : (b.at p).name ∈ namesOf b.batches := by
    have e : nth (namesOf b.batches) p = (b.at p).name := nth_namesOf hp
    rw [← e, nth_get (by rw [namesOf_length]; exact hp)]
    exact List.getElem_mem _
  have hlt : place (namesOf b.batches) (b.at p).name < b.batches.length := by
    have := place_lt.2 hm
    rwa [namesOf_length] at this
  exact name_inj h hlt hp (name_at rfl hlt)

theorem canGo_p {w : World} {base g bg : Nat} {vh vn : Value} {b : Book} {gone : List Str} {p : Nat} (v : Bool) (hst : GoneAt w base g bg vh vn b gone) (hok : bookOk b = true) (hlt : p < b.batches.length)
    (hv : goodN b gone p = v) :
    Calls Qry.prog 21 #[.pointer (some ⟨g, 0, none⟩), .int .i64 (p : Int)] w fun e w' => e = .returned (.bool v) ∧ ∃ n, w' = w.drewN n :=
  canGo_v v hst hok (place_self hok hlt) hlt hv

theorem GoneAt.goneCell {w : World} {base g bg : Nat} {vh vn : Value} {b : Book} {gone : List Str} (h : GoneAt w base g bg vh vn b gone) : w.cell? ⟨g, 2, none⟩ = some (.slice (some ⟨bg, 0, none⟩) b.batches.length b.batches.length) := by
  obtain ⟨gl, h1, h2, h3⟩ := h
  have c := h3.cells.cell (i := 2) (by omega)
  simp only [goingCells] at c
  rw [h1] at c
  exact c

set_option maxHeartbeats 1000000 in
theorem first_v {w : World} {base g bg : Nat} {vh vn : Value} {b : Book} {gone : List Str} (hst : GoneAt w base g bg vh vn b gone) (hok : bookOk b = true) :
    Calls Qry.prog 64 #[.pointer (some ⟨g, 0, none⟩)] w fun e w' =>
      ((∃ p : Nat, e = .returned (.tuple #[.int .i64 p, .bool true]) ∧ nextOf b gone = some p) ∨ (e = .returned (.tuple #[.int .i64 0, .bool false]) ∧ nextOf b gone = none)) ∧ Ext w w' := by
  have hc := hst.goneCell
  have h5 := ok_five hok
  have HOK := hid hok
  go_enter Qry.func64, Tryz.ntmps64
  go_wp2
  go_loopw [10] (fun i wr => ∃ k : Nat, k ≤ b.batches.length ∧ i = .int .i64 k ∧ Ext w wr ∧ ∀ j, j < k → goodN b gone j = false) (fun i _ => b.batches.length - (intOf i).toNat)
  case atStart => exact ⟨0, Nat.zero_le _, rfl, Ext.rfl' _, fun j hj => by omega⟩
  case round =>
    obtain ⟨k, hk, rfl, hext, hx⟩ := hrel
    have hst' := hst.ext hext
    have HX := hid hx
    have HE := hid hext
    clear hx hext
    by_cases hlt : k < b.batches.length
    · cases hv : goodN b gone k
      · have HV := hid hv
        go_wp2_with fail
        refine (canGo_p false hst' HOK.out hlt HV.out).mono ?_
        rintro e w1 ⟨rfl, n1, rfl⟩
        go_wp2_with fail
        go_roundw
        case rel => exact ⟨k + 1, by omega, by go_num, Ext.tr HE.out (ext_drewN _ _), fun j hj => by
          by_cases e : j = k
          · rw [e]; exact HV.out
          · exact HX.out j (by omega)⟩
        case measure => simp [intOf]; omega
      · have HF := hid (nextOf_some hlt hv HX.out)
        have HV := hid hv
        clear hv
        go_wp2_with fail
        refine (canGo_p true hst' HOK.out hlt HV.out).mono ?_
        rintro e w1 ⟨rfl, n1, rfl⟩
        go_wp2_with fail
        go_ret2
        exact ⟨Or.inl ⟨k, rfl, HF.out⟩, Ext.tr HE.out (ext_drewN _ _)⟩
    · have HF := hid (nextOf_none (fun j hj => HX.out j (by omega)))
      go_wp2_with fail
      go_ret2
      exact ⟨Or.inr ⟨rfl, HF.out⟩, HE.out⟩
end Go.Proofs.YtdafpnpfcmgfcaaGreat
namespace Go.Proofs.YtdafpnpfcmgfcaaGreat

theorem pickL_mem {yes : Nat → Bool} {bs : List Batch} {x : Str} : ∀ {n : Nat}, x ∈ pickL yes bs n ↔ ∃ j, j < n ∧ yes j = true ∧ (nthB bs j).name = x
  | 0 => by simp [pickL]
  | n + 1 => by
    have ih := pickL_mem (yes := yes) (bs := bs) (x := x) (n := n)
    cases hy : yes n
    · rw [pickL_no hy, ih]
      constructor
      · rintro ⟨j, h1, h2⟩; exact ⟨j, by omega, h2⟩
      · rintro ⟨j, h1, h2, h3⟩
        refine ⟨j, ?_, h2, h3⟩
        by_cases e : j = n
        · subst e; rw [hy] at h2; cases h2
        · omega
    · rw [pickL_yes hy, List.mem_append, ih, List.mem_singleton]
      constructor
      · rintro (⟨j, h1, h2⟩ | h)
        · exact ⟨j, by omega, h2⟩
        · exact ⟨n, by omega, hy, h.symm⟩
      · rintro ⟨j, h1, h2, h3⟩
        by_cases e : j = n
        · subst e; exact .inr h3.symm
        · exact .inl ⟨j, by omega, h2, h3⟩
theorem pickL_nil {yes : Nat → Bool} {bs : List Batch} {n : Nat} : pickL yes bs n = [] ↔ ∀ j, j < n → yes j = false := by
  constructor
  · intro h j hj
    cases hy : yes j
    · rfl
    · have : (nthB bs j).name ∈ pickL yes bs n := pickL_mem.2 ⟨j, hj, hy, rfl⟩
      rw [h] at this; cases this
  · intro h
    cases hp : pickL yes bs n with
    | nil => rfl
    | cons x l =>
      have : x ∈ pickL yes bs n := by rw [hp]; simp
      obtain ⟨j, h1, h2, _⟩ := pickL_mem.1 this
      rw [h j h1] at h2; cases h2
/-- Nobody can, though somebody shares. -/
def stuckB (b : Book) : Bool := bookOk b && (decide (0 < b.batches.length) && decide ((movesL b).length = 0))
theorem stuck_unsafe {b : Book} (h : stuckB b = true) : safeB b = false := by
  simp only [stuckB, Bool.and_eq_true, decide_eq_true_eq] at h
  obtain ⟨hok, hn, hm⟩ := h
  have hm' : pickL (fun i => canB b i []) b.batches b.batches.length = [] := by
    have : movesL b = [] := List.eq_nil_of_length_eq_zero hm
    simpa [movesL, hok] using this
  have hall := pickL_nil.1 hm'
  have hnx : nextOf b [] = none := nextOf_none fun j hj => by simp [goodN, hall j hj]
  obtain ⟨m, hm2⟩ : ∃ m, b.batches.length = m + 1 := ⟨b.batches.length - 1, by omega⟩
  simp [safeB, orderOf, hok, hm2, greedy_none hnx]
theorem canB_iff {b : Book} {i : Nat} : canB b i [] = true ↔ ∀ j, j < b.batches.length → waitY b i j = false := by
  have hc : ∀ j, clash b i [] j = waitY b i j := fun j => by
    simp [clash, waitY, hasB, Book.at]
    rfl
  constructor
  · intro h j hj
    cases hw : waitY b i j
    · rfl
    · rw [canB_no hj (by rw [hc]; exact hw)] at h; cases h
  · intro h
    exact canB_yes fun j hj => by rw [hc]; exact h j hj
theorem move_waits {b : Book} (hok : bookOk b = true) {i : Nat} (hi : i < b.batches.length) : hasB (movesL b) (nthB b.batches i).name = decide ((waitsL b (nthB b.batches i).name).length = 0) := by
  have hp : place (namesOf b.batches) (nthB b.batches i).name = i := place_self hok hi
  have h1 : waitsL b (nthB b.batches i).name = pickL (waitY b i) b.batches b.batches.length := by simp [waitsL, hok, hp, hi]
  have h2 : movesL b = pickL (fun i => canB b i []) b.batches b.batches.length := by simp [movesL, hok]
  rw [h1, h2, Bool.eq_iff_iff, hasB_true, pickL_mem, decide_eq_true_eq]
  constructor
  · rintro ⟨j, hj, hcan, hn⟩
    have hij : j = i := by
      have := place_self hok hj
      have e : (b.at j).name = (nthB b.batches i).name := hn
      rw [e, hp] at this
      exact this.symm
    subst hij
    rw [pickL_nil.2 (canB_iff.1 hcan)]; rfl
  · intro h
    exact ⟨i, hi, canB_iff.2 (pickL_nil.1 (List.eq_nil_of_length_eq_zero h)), rfl⟩
theorem waits_other (b : Book) (x : Str) : ∀ i, i < (waitsL b x).length → (nth (waitsL b x) i == x) = false := by
  intro i hi
  by_cases hh : bookOk b = true ∧ place (namesOf b.batches) x < b.batches.length
  · have h1 : waitsL b x = pickL (waitY b (place (namesOf b.batches) x)) b.batches b.batches.length := by simp [waitsL, hh]
    have hm : nth (waitsL b x) i ∈ waitsL b x := by rw [nth_get hi]; exact List.getElem_mem hi
    generalize nth (waitsL b x) i = y at hm
    rw [h1] at hm
    obtain ⟨j, hj, hw, rfl⟩ := pickL_mem.1 hm
    cases he : (nthB b.batches j).name == x
    · rfl
    · have e := eq_of_beq he
      have := place_self hh.1 hj
      have e2 : (b.at j).name = x := e
      rw [e2] at this
      rw [this] at hw
      simp [waitY] at hw
  · have : waitsL b x = [] := by simp only [waitsL, if_neg hh]
    rw [this] at hi; simp at hi
end Go.Proofs.YtdafpnpfcmgfcaaGreat
namespace Go.Proofs.YtdafpnpfcmgfcaaGreat
open Go.RowKit
attribute [local go_sem] S_toList S_size S_get

set_option maxRecDepth 100000 in
set_option maxHeartbeats 1000000 in
theorem drawMoves_any (a : Option Addr) (n c : Nat) (w : World) (h : BytesAt w a n) (hn : n ≤ c) (hc : c ≤ 140737488355328) :
    Calls Qry.prog 4 #[.slice a n c] w fun e w' =>
      ∃ (b : Book) (x1 x2 : Option Addr) (y1 y2 : Nat), e = .returned (.agg #[.slice x1 b.things.length y1, .slice x2 b.batches.length y2]) ∧ Ext w w' ∧ BookAt w' x1 x2 b ∧ SmB9 b := by
  have hby : BytesAt (w.alloc (.cells #[.slice none 0 0, .slice none 0 0] 26)) a n := h.gb (gb_none (ext_alloc _ _)) (fun b o e hp => by simp)
  go_enter Qry.func4, Tryz.ntmps4
  go_wp2_with fail
  refine (l1Open_any a n c _ hby hn hc).mono ?_
  rintro e w1 ⟨rfl, hE1, hr1⟩
  have hz1 := hr1.lt
  simp at hr1 hz1
  have HRR : Hid (Rec w1 w.heap.size 26 [.slice none 0 0, .slice none 0 0]) := (Rec.new w _ _).ext hE1
  have HE1 := hid (Ext.tr (ext_alloc _ _) hE1)
  clear hE1
  go_wp2_with fail
  refine (l5Any_any (w.heap.size + 1) 0 w1 hr1 (by omega)).mono ?_
  rintro e w2 ⟨b, x1, x2, y1, y2, rfl, hg2, hr2, hb2, hsm⟩
  have HE2 := hid (on_new HE1.out (by omega) hg2)
  have HRR2 := hid (HRR.out.kept hg2 (by simp))
  have HB2 := hid hb2
  clear hg2 hr2 hb2 HRR HE1 hr1
  have t0 := HRR2.out.cell (i := 0) rfl
  have t1 := HRR2.out.cell (i := 1) rfl
  have f0 := HRR2.out.frozen 0
  have f1 := HRR2.out.frozen 1
  go_wp2
  have hE3 : Ext w ((w2.setCell ⟨w.heap.size, 0, none⟩ (.slice x1 b.things.length y1)).setCell ⟨w.heap.size, 1, none⟩ (.slice x2 b.batches.length y2)) := (HE2.out.setCell (by simp) _).setCell (by simp) _
  have hB3 : BookAt ((w2.setCell ⟨w.heap.size, 0, none⟩ (.slice x1 b.things.length y1)).setCell ⟨w.heap.size, 1, none⟩ (.slice x2 b.batches.length y2)) x1 x2 b := (HB2.out.box HRR2.out noStr2).box (HRR2.out.set 0 _) noStr2
  refine bodyPost_ret (v := .agg #[.slice x1 b.things.length y1, .slice x2 b.batches.length y2]) (by simp [results, Tryz.results4, go_sem, t0, t1]) rfl (by
    refine ⟨b, x1, x2, ?_⟩
    first
      | exact ⟨y1, y2, rfl, hE3, hB3, hsm⟩
      | exact ⟨⟨y1, y2, rfl⟩, hE3, hB3, hsm⟩)


def WaitsRes (w : World) (e : Ending) (w' : World) : Prop :=
  ∃ (b : Book) (x1 x2 : Option Addr) (y1 y2 : Nat) (s : Str), e = .returned (.tuple #[.agg #[.slice x1 b.things.length y1, .slice x2 b.batches.length y2], .string (S s)]) ∧ Ext w w' ∧ BookAt w' x1 x2 b ∧ SmB9 b ∧ s.length ≤ 140737488355328
set_option maxRecDepth 100000 in
set_option maxHeartbeats 1000000 in
theorem drawWaits_any (a : Option Addr) (n c : Nat) (w : World) (h : BytesAt w a n) (hn : n ≤ c) (hc : c ≤ 140737488355328) :
    Calls Qry.prog 14 #[.slice a n c] w fun e w' => WaitsRes w e w' := by
  have hby : BytesAt (w.alloc (.cells #[.slice none 0 0, .slice none 0 0] 26)) a n := h.gb (gb_none (ext_alloc _ _)) (fun b o e hp => by simp)
  go_enter Qry.func14, Tryz.ntmps14
  go_wp2_with fail
  refine (asks_any a n c _ hby hn hc).mono ?_
  rintro e w1 ⟨b, x1, x2, x3, y1, y2, y3, s, L, rfl, hE1, hb1, hl1, hsm, hsl⟩
  have hRR : Rec w1 w.heap.size 26 [.slice none 0 0, .slice none 0 0] := (Rec.new w _ _).ext hE1
  have hE2 := Ext.tr (ext_alloc _ _) hE1
  have t0 := hRR.cell (i := 0) rfl
  have t1 := hRR.cell (i := 1) rfl
  have f0 := hRR.frozen 0
  have f1 := hRR.frozen 1
  have u0 := box_cell (Ext.rfl' (w1.alloc (.cells #[.slice x1 b.things.length y1, .slice x2 b.batches.length y2] 26))) (i := 0) rfl
  have u1 := box_cell (Ext.rfl' (w1.alloc (.cells #[.slice x1 b.things.length y1, .slice x2 b.batches.length y2] 26))) (i := 1) rfl
  have hlt : w.heap.size < w1.heap.size := by have := hE1.size; simp at this; omega
  have HS3 : Hid (Ext w (((w1.setCell ⟨w.heap.size, 0, none⟩ (.slice x1 b.things.length y1)).setCell ⟨w.heap.size, 1, none⟩ (.slice x2 b.batches.length y2)).alloc (.cells #[.slice x1 b.things.length y1, .slice x2 b.batches.length y2] 26))) := Ext.tr ((hE2.setCell (by simp) _).setCell (by simp) _) (ext_alloc _ _)
  have HB3 : Hid (BookAt (((w1.setCell ⟨w.heap.size, 0, none⟩ (.slice x1 b.things.length y1)).setCell ⟨w.heap.size, 1, none⟩ (.slice x2 b.batches.length y2)).alloc (.cells #[.slice x1 b.things.length y1, .slice x2 b.batches.length y2] 26)) x1 x2 b) := ((hb1.box hRR noStr2).box (hRR.set 0 _) noStr2).ext (ext_alloc _ _)
  have hR3 := ((hRR.set 0 (.slice x1 b.things.length y1)).set 1 (.slice x2 b.batches.length y2)).ext (ext_alloc _ (.cells #[.slice x1 b.things.length y1, .slice x2 b.batches.length y2] 26))
  have r0 := hid (hR3.cell (i := 0) rfl)
  have r1 := hid (hR3.cell (i := 1) rfl)
  clear hE1 hb1 hl1 hRR hE2 hR3
  go_wp2_with fail
  replace r0 := r0.out
  replace r1 := r1.out
  refine bodyPost_ret (v := .tuple #[.agg #[.slice x1 b.things.length y1, .slice x2 b.batches.length y2], .string (S s)]) (by simp [results, Tryz.results14, go_sem, r0, r1]) rfl ⟨b, x1, x2, y1, y2, s, rfl, HS3.out, HB3.out, hsm, hsl⟩

theorem stuck_no {b : Book} (h : bookOk b = false) : stuckB b = false := by simp [stuckB, h]
theorem stuck_none {b : Book} (h : ¬ 0 < b.batches.length) : stuckB b = false := by simp [stuckB, h]
theorem stuck_is {b : Book} (h : bookOk b = true) (h2 : 0 < b.batches.length) : stuckB b = (((movesL b).length : Int) == 0) := by
  rw [Bool.eq_iff_iff]
  simp [stuckB, h, h2]

set_option maxRecDepth 100000 in
set_option maxHeartbeats 1000000 in
theorem specStuck_any (b : Book) (a1 a2 : Option Addr) (c1 c2 : Nat) (w : World) (hb : BookAt w a1 a2 b) :
    Calls Qry.prog 9 #[.agg #[.slice a1 b.things.length c1, .slice a2 b.batches.length c2]] w fun e w' => e = .returned (.bool (stuckB b)) ∧ Ext w w' := by
  have hal : ∀ o, Ext w (w.alloc o) := fun o => (Below.refl _ _).alloc (Nat.le_refl _) _
  go_enter Qry.func9, Tryz.ntmps9
  go_wp2_with fail
  refine (specBookOk_any b _ _ _ _ _ (hb.ext (hal _))).mono ?_
  rintro e w1 ⟨rfl, hext1⟩
  have HE1 := hid hext1
  clear hext1
  have hx0 := box_cell HE1.out (i := 0) rfl
  have hx1 := box_cell HE1.out (i := 1) rfl
  cases hok : bookOk b
  · have HS := hid (stuck_no hok)
    go_wp2_with fail
    go_ret
    exact ⟨ret_bool HS.out.symm, Ext.tr (hal _) HE1.out⟩
  · by_cases hn : 0 < b.batches.length
    · have HS := hid (stuck_is hok hn)
      go_wp2_with fail
      refine (specMoves_any b _ _ _ _ _ (hb.ext (Ext.tr (hal _) HE1.out))).mono ?_
      rintro e w2 ⟨a, cap, rfl, hext2, _⟩
      have HE2 := hid (Ext.tr HE1.out hext2)
      clear hext2 hx0 hx1
      go_wp2_with fail
      go_ret
      exact ⟨ret_bool (by rw [HS.out]), Ext.tr (hal _) HE2.out⟩
    · have HS := hid (stuck_none hn)
      go_wp2_with fail
      go_ret
      exact ⟨ret_bool HS.out.symm, Ext.tr (hal _) HE1.out⟩
end Go.Proofs.YtdafpnpfcmgfcaaGreat
