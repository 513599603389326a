/- The walk over the program's startGoing. -/
import Derived.Test.YtdafpnpfcmgfcabJL
import Derived.Test.YtdafpnpfcmgfcabMath6
import Derived.Test.YtdafpnpfcmgfcabGrow
import Derived.Maps.AppendAt
import Derived.Deep.RegionLaw
import Derived.Deep.RegionHeld3
namespace Go.Proofs.Ytdafpnpfcmgfcab
open Go.RowKit

theorem Qry.infoBool : (Qry.prog.info? 4).map (fun i => (i.zero, i.size, i.bytes)) = some (some (.bool false), 1, 1) := by kernel_rfl
theorem Qry.infoBits : (Qry.prog.info? 57).map (fun i => (i.zero, i.size, i.bytes)) = some (some (.int .u64 0), 1, 8) := by kernel_rfl
theorem info_bits : ∃ i, Qry.prog.info? 57 = some i ∧ i.zero = some (.int .u64 0) ∧ i.size = 1 ∧ i.bytes = 8 := by
  obtain ⟨i, hi, hzz⟩ := Option.map_eq_some_iff.1 Qry.infoBits
  simp only [Prod.mk.injEq] at hzz
  exact ⟨i, hi, hzz.1, hzz.2.1, hzz.2.2⟩

/-- append onto a row of the call's own, as one step of a region that draws. -/
theorem step_append_own_at {P : Program} {w : World} {ops : Array Oper} {o : Oper} {a : Act} {K : Act → World → Prop} {Q : Exit → Act → World → Prop} {E : Prop} (hgd : o.guard = none) (s x : Operand) (t : TypeId)
    (ho : o.op = .call { callee := .builtin .append, args := #[s, x], argTypes := #[t, t] })
    (base : Nat) (e : TypeId) (i : TypeInfo) (z : Value) (size bytes : Nat) (ht : P.underlying t = some (.slice e)) (hi : P.info? e = some i) (hz : i.zero = some z)
    (hsize : i.size = size) (hby : i.bytes = bytes) (hzs : z.cells.size = size) (hsz : 0 < size)
    (v : Value) (n : Nat) (xs : List Value) (hs : a.eval s = v) (hown : w.ownsRow base e size v n xs)
    (ad : Addr) (m c : Nat) (news : List Value) (hx : a.eval x = .slice (some ad) m c) (hl : news.length = m * size) (hnews : ∀ j u, news[j]? = some u → w.cell? (ad.add j) = some u) (h1 : ∀ u ∈ news, u.oneCell' = true)
    (h63 : n + m ≤ maxLen) (hbytes : (n + m) * bytes ≤ 140737488355328) (hbase : base ≤ w.heap.size)
    (h : ∀ v' w', w'.ownsRow base e size v' (n + m) (xs ++ news) → w.grownBy w' v.ownBlock → (v'.ownBlock = v.ownBlock ∨ v'.ownBlock = some w.heap.size) → K (a.put o.dst v') w') :
    if Region.wanted o (yielded ops a.tmps) = true then Oper.wp P o a w K Q else E := by
  have hw : Region.wanted o (yielded ops a.tmps) = true := by simp [Region.wanted, hgd]
  rw [if_pos hw]
  obtain ⟨v', w', hr, h2, h3, _, h5⟩ := run_append_own_at (P := P) w base t o.type e i z size bytes ht hi hz hsize hby hzs hsz v n xs hown ad m c news hl hnews h1 h63 hbytes hbase
  unfold Oper.wp execOp
  simp only [ho, resolve, invoke, builtin, Sem.run_bind, Sem.run_pure, Result.andThen_ok, List.map_toArray, List.map_cons, List.map_nil, hs, hx, hr]
  exact h v' w' h2 h3 h5

/-- The rows of Has and of Needs lie apart. -/
def Sep (vh vn : Value) : Prop := ∀ k, vh.ownBlock = some k → vn.ownBlock ≠ some k

theorem ownsRow_grown {w w' : World} {base : Nat} {e : TypeId} {size : Nat} {v u : Value} {n : Nat} {xs : List Value} (h : w.ownsRow base e size v n xs) (hg : w.grownBy w' u.ownBlock) (hs : ∀ k, v.ownBlock = some k → u.ownBlock ≠ some k) : w'.ownsRow base e size v n xs := by
  refine h.kept hg ?_
  cases hv : v.ownBlock with
  | none => exact Or.inl rfl
  | some k => exact Or.inr (fun e => hs k hv e.symm)
theorem rowIs_grown {w w' : World} {b base : Nat} {t : TypeId} {n m : Nat} {f : Nat → Value} {e : TypeId} {size : Nat} {u : Value} {xs : List Value} (h : w.rowIs b t n f) (hu : w.ownsRow base e size u m xs) (hb : b < base) (hg : w.grownBy w' u.ownBlock) : w'.rowIs b t n f :=
  h.of_block (hg.block b h.lt (fun e => ownBlock_ge hu hb e.symm))

theorem GoingAt.alloc {w : World} {base g bg : Nat} {vh vn : Value} {has needs : List Nat} {gone : List Bool} {free : Nat} (h : GoingAt w base g bg vh vn has needs gone free) (o : Obj) :
    GoingAt (w.alloc o) base g bg vh vn has needs gone free := h.ext ((Below.refl _ _).alloc (Nat.le_refl _) _)
theorem GoingAt.drew {w : World} {base g bg : Nat} {vh vn : Value} {has needs : List Nat} {gone : List Bool} {free : Nat} (h : GoingAt w base g bg vh vn has needs gone free) :
    GoingAt w.drew base g bg vh vn has needs gone free := h.ext (ext_drewN w 1)

theorem GoingAt.pushHas {w w3 : World} {base g bg : Nat} {vh vn v' : Value} {has needs : List Nat} {gone : List Bool} {free x : Nat} (h : GoingAt w base g bg vh vn has needs gone free) (hsep : Sep vh vn)
    (ho : w3.ownsRow base 57 1 v' (has.length + 1) (has.map (fun y : Nat => Value.int .u64 (y : Int)) ++ [.int .u64 (x : Int)])) (hg : w.grownBy w3 vh.ownBlock) (hl : v'.ownBlock = vh.ownBlock ∨ v'.ownBlock = some w.heap.size) :
    GoingAt (w3.setCell ⟨g, 0, none⟩ v') base g bg v' vn (has ++ [x]) needs gone free ∧ Sep v' vn := by
  have hs2 : ∀ k, vn.ownBlock = some k → vh.ownBlock ≠ some k := fun k hk e => hsep k e hk
  have hvn3 := ownsRow_grown h.nrow hg hs2
  have ho' : w3.ownsRow base 57 1 v' (has ++ [x]).length ((has ++ [x]).map (fun y : Nat => Value.int .u64 (y : Int))) := by
    rw [List.length_append, List.map_append]; exact ho
  refine ⟨⟨?_, ?_, ?_, ?_, h.hg, h.hbg, h.ne⟩, ?_⟩
  · refine ((rowIs_grown h.cells h.hrow h.hg hg).set 0 v').congr ?_
    intro j hj
    match j, hj with
    | 0, _ => rfl
    | 1, _ => rfl
    | 2, _ => rfl
    | 3, _ => rfl
  · exact (rowIs_grown h.row h.hrow h.hbg hg).setOther (a := ⟨g, 0, none⟩) (Ne.symm h.ne) _
  · exact ownsRow_setCell_other ho' (ownBlock_ge ho' h.hg) _
  · exact ownsRow_setCell_other hvn3 (ownBlock_ge hvn3 h.hg) _
  · intro k hk e
    rcases hl with hl | hl
    · exact hsep k (by rw [← hl]; exact hk) e
    · have : k = w.heap.size := by rw [hl] at hk; injection hk with hk; exact hk.symm
      have := (h.nrow.lt k e).2; omega
theorem GoingAt.pushNeeds {w w3 : World} {base g bg : Nat} {vh vn v' : Value} {has needs : List Nat} {gone : List Bool} {free x : Nat} (h : GoingAt w base g bg vh vn has needs gone free) (hsep : Sep vh vn)
    (ho : w3.ownsRow base 57 1 v' (needs.length + 1) (needs.map (fun y : Nat => Value.int .u64 (y : Int)) ++ [.int .u64 (x : Int)])) (hg : w.grownBy w3 vn.ownBlock) (hl : v'.ownBlock = vn.ownBlock ∨ v'.ownBlock = some w.heap.size) :
    GoingAt (w3.setCell ⟨g, 1, none⟩ v') base g bg vh v' has (needs ++ [x]) gone free ∧ Sep vh v' := by
  have hvh3 := ownsRow_grown h.hrow hg hsep
  have ho' : w3.ownsRow base 57 1 v' (needs ++ [x]).length ((needs ++ [x]).map (fun y : Nat => Value.int .u64 (y : Int))) := by
    rw [List.length_append, List.map_append]; exact ho
  refine ⟨⟨?_, ?_, ?_, ?_, h.hg, h.hbg, h.ne⟩, ?_⟩
  · refine ((rowIs_grown h.cells h.nrow h.hg hg).set 1 v').congr ?_
    intro j hj
    match j, hj with
    | 0, _ => rfl
    | 1, _ => rfl
    | 2, _ => rfl
    | 3, _ => rfl
  · exact (rowIs_grown h.row h.nrow h.hbg hg).setOther (a := ⟨g, 1, none⟩) (Ne.symm h.ne) _
  · exact ownsRow_setCell_other hvh3 (ownBlock_ge hvh3 h.hg) _
  · exact ownsRow_setCell_other ho' (ownBlock_ge ho' h.hg) _
  · intro k hk e
    rcases hl with hl | hl
    · exact hsep k hk (by rw [← hl]; exact e)
    · have : k = w.heap.size := by rw [hl] at e; injection e with e; exact e.symm
      have := (h.hrow.lt k hk).2; omega
theorem GoingAt.setFree {w : World} {base g bg : Nat} {vh vn : Value} {has needs : List Nat} {gone : List Bool} {free : Nat} (h : GoingAt w base g bg vh vn has needs gone free) (f' : Nat) :
    GoingAt (w.setCell ⟨g, 3, none⟩ (.int .u64 (f' : Int))) base g bg vh vn has needs gone f' := by
  refine ⟨(h.cells.set 3 _).congr ?_, h.row.setOther (a := ⟨g, 3, none⟩) (Ne.symm h.ne) _, ownsRow_setCell_other h.hrow (ownBlock_ge h.hrow h.hg) _, ownsRow_setCell_other h.nrow (ownBlock_ge h.nrow h.hg) _, h.hg, h.hbg, h.ne⟩
  intro j hj
  match j, hj with
  | 0, _ => rfl
  | 1, _ => rfl
  | 2, _ => rfl
  | 3, _ => rfl

theorem start_going {w wc : World} {o : Obj} {n f : Nat} (e : wc.Alike (((w.alloc o).alloc (.cells (madeCells #[.bool false] n) 4)).alloc (.cells #[.slice none 0 0, .slice none 0 0, .slice (some ⟨w.heap.size + 1, 0, none⟩) n n, .int .u64 (f : Int)] 61))) :
    GoingAt wc (w.heap.size + 3) (w.heap.size + 2) (w.heap.size + 1) (.slice none 0 0) (.slice none 0 0) [] [] (List.replicate n false) f := by
  refine ⟨?_, ?_, World.ownsRow_nil _ _ _ _, World.ownsRow_nil _ _ _ _, by omega, by omega, by omega⟩
  · refine rowIs_alike ?_ e
    have h := World.rowIs_alloc ((w.alloc o).alloc (.cells (madeCells #[.bool false] n) 4)) #[.slice none 0 0, .slice none 0 0, .slice (some ⟨w.heap.size + 1, 0, none⟩) n n, .int .u64 (f : Int)] 61 (goingCells (.slice none 0 0) (.slice none 0 0) (w.heap.size + 1) n f) (fun i hi => by
      have hi' : i < 4 := by simpa using hi
      match i, hi' with
      | 0, _ => rfl
      | 1, _ => rfl
      | 2, _ => rfl
      | 3, _ => rfl)
    simpa using h
  · refine rowIs_alike ?_ e
    have h := (World.rowIs_made (w.alloc o) (.bool false) n 4).alloc (.cells #[.slice none 0 0, .slice none 0 0, .slice (some ⟨w.heap.size + 1, 0, none⟩) n n, .int .u64 (f : Int)] 61)
    have hs : (w.alloc o).heap.size = w.heap.size + 1 := by simp
    rw [hs] at h
    rw [List.length_replicate]
    exact h.congr (fun i hi => by simp [gnth, List.getD_eq_getElem?_getD, hi])

theorem take_bits {l : List Batch} (f : Batch → Nat) {i : Nat} (h : i < l.length) : (l.map f).take (i + 1) = (l.map f).take i ++ [f (nthB l i)] := by
  rw [List.take_succ_eq_append_getElem (by simpa using h), nthB_get h]; simp
theorem free_step {b : Book} (hok : bookOk b = true) {i : Nat} (hi : i < b.batches.length) : freeN b (fun j => decide (i ≤ j)) = freeN b (fun j => decide (i + 1 ≤ j)) + bitsN (nthB b.batches i).has b.things := by
  show _ = _ + bitsN (b.at i).has b.things
  rw [← freeN_put hok (out := fun j => decide (i + 1 ≤ j)) hi (by simp)]
  refine freeN_congr (fun j _ => ?_)
  unfold putOut
  by_cases e : j = i
  · simp [e]
  · rw [if_neg e, Bool.eq_iff_iff]; simp; omega
theorem freeN_small (b : Book) (out : Nat → Bool) (h8 : b.things.length ≤ 8) : freeN b out < 1024 := by
  have h1 := bitsP_lt (freeP b out) b.things.length
  have h2 := pow_small h8
  unfold freeN; omega
theorem bitsN_small (l things : List Str) (h8 : things.length ≤ 8) : bitsN l things < 1024 := by
  have h1 := bitsTo_lt l things things.length
  have h2 := pow_small h8
  unfold bitsN; omega

end Go.Proofs.Ytdafpnpfcmgfcab
