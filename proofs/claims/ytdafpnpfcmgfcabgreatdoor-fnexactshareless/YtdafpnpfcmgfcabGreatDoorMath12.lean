/- How many names an answer's book holds. -/
import Derived.Test.YtdafpnpfcmgfcabGreatDoorE17
import Derived.Test.YtdafpnpfcmgfcabGreatDoorK8
namespace Go.Proofs.YtdafpnpfcmgfcabGreatDoor
open Go.RowKit

theorem cnt_le {bs : List Batch} {m : Nat} (h : ∀ i, i < bs.length → (nthB bs i).has.length + (nthB bs i).needs.length ≤ m) : ∀ n, n ≤ bs.length → cntTo bs n ≤ n * m
  | 0, _ => by simp [cntTo]
  | n + 1, hn => by
    have h1 := cnt_le h n (by omega)
    have h2 := h n (by omega)
    have e : cntTo bs (n + 1) = cntTo bs n + ((nthB bs n).has.length + (nthB bs n).needs.length) := rfl
    rw [e, Nat.succ_mul]; omega
theorem ok_marks {b : Book} (h : bookOk b = true) : nMarks b ≤ 93 := by
  have h5 := ok_five h
  have h8 := things_eight h
  have hc := cnt_le (bs := b.batches) (m := 16) (fun i hi => by
    have := ok_lens h hi
    have e : b.at i = nthB b.batches i := rfl
    rw [e] at this; omega) b.batches.length (Nat.le_refl _)
  unfold nMarks
  have : b.batches.length * 16 ≤ 80 := by omega
  omega
theorem empty_marks : nMarks emptyBook = 0 := rfl
theorem out_marks {b B : Book} {c : Nat} {b0 : Book} {N : Nat} (hN : 93 ≤ N) (hb : nMarks b ≤ N) (h : (if c = 0 then b0 else if c = 1 then emptyBook else b) = B) (h0 : c = 0 → bookOk B = true) : nMarks B ≤ N := by
  by_cases hc : c = 0
  · have := ok_marks (h0 hc); omega
  · rw [if_neg hc] at h
    by_cases h1 : c = 1
    · rw [if_pos h1] at h
      rw [← h, empty_marks]; omega
    · rw [if_neg h1] at h
      rw [← h]; exact hb
theorem enter_marks {b : Book} {n : Str} {l : List Str} {N : Nat} (hN : 93 ≤ N) (hb : nMarks b ≤ N) : nMarks (enterB b n l).1 ≤ N :=
  out_marks hN hb (enter_book b n l) (fun h => enter_ok (enter_zero h))
theorem ask_marks {b : Book} {n : Str} {l : List Str} {N : Nat} (hN : 93 ≤ N) (hb : nMarks b ≤ N) : nMarks (askB b n l).1 ≤ N :=
  out_marks hN hb (ask_book b n l) (fun h => ask_ok (ask_zero h).1)
theorem less_marks {b : Book} {n : Str} {l : List Str} {N : Nat} (hN : 93 ≤ N) (hb : nMarks b ≤ N) : nMarks (lessB b n l).1 ≤ N :=
  out_marks hN hb (less_book b n l) (fun h => less_ok (less_zero h).1)
theorem leave_marks {b : Book} {n : Str} {N : Nat} (hN : 93 ≤ N) (hb : nMarks b ≤ N) : nMarks (leaveB b n).1 ≤ N :=
  out_marks hN hb (leave_book b n) (fun h => leave_ok (leave_zero h).1)

theorem OB.far {w w' : World} {base : Nat} {v1 v2 : Value} {rs : List Row} {b : Book} (h : OB w base v1 v2 rs b) {row : Option Nat} (g : w.grownBy w' row) (hr : ∀ k, row = some k → k < base) : OB w' base v1 v2 rs b :=
  ⟨h.ot.far g hr, h.st, own_far h.ob g hr, h.ow.far g hr, h.di⟩
theorem Rec.mid {w w' : World} {lo hi X : Nat} {t : TypeId} {l : List Value} (h : Rec w X t l) (m : Mid lo hi w w') (hX : X < lo ∨ hi ≤ X) : Rec w' X t l := (m.block X h.lt hX).trans h
theorem RowN.mid {w w' : World} {lo hi b n : Nat} (h : RowN w b n) (m : Mid lo hi w w') (hX : b < lo ∨ hi ≤ b) : RowN w' b n := by
  obtain ⟨f, hf⟩ := h
  exact ⟨f, hf.of_block (m.block b hf.lt hX)⟩

/-- What the exact law of one of the four holds while it goes: the specification's answer, the argument's box, the answer's box, the answer. -/
structure LSt (P3 P4 P5 P6 x1 x2 : Nat) (b B : Book) (s1 s2 g1 g2 : Option Addr) (t1 t2 e1 e2 : Nat) (rs : List Row) (w3 wk : World) : Prop where
  ext : Ext w3 wk
  r0 : Rec wk P3 30 [.slice s1 B.things.length t1, .slice s2 B.batches.length t2]
  rx : Rec wk P4 30 [.slice (some ⟨x1, 0, none⟩) b.things.length b.things.length, .slice (some ⟨x2, 0, none⟩) b.batches.length b.batches.length]
  rg : Rec wk P6 30 [.slice g1 B.things.length e1, .slice g2 B.batches.length e2]
  ob : OB wk P5 (.slice g1 B.things.length e1) (.slice g2 B.batches.length e2) rs B
section
variable {P3 P4 P5 P6 x1 x2 : Nat} {b B : Book} {s1 s2 g1 g2 : Option Addr} {t1 t2 e1 e2 : Nat} {rs : List Row} {w3 wk wl : World}
theorem LSt.next (h : LSt P3 P4 P5 P6 x1 x2 b B s1 s2 g1 g2 t1 t2 e1 e2 rs w3 wk) (e : Ext wk wl) : LSt P3 P4 P5 P6 x1 x2 b B s1 s2 g1 g2 t1 t2 e1 e2 rs w3 wl :=
  ⟨Ext.tr h.ext e, h.r0.ext e, h.rx.ext e, h.rg.ext e, h.ob.ext e⟩
theorem LSt.mid {lo hi : Nat} (h : LSt P3 P4 P5 P6 x1 x2 b B s1 s2 g1 g2 t1 t2 e1 e2 rs w3 wk) (m : Mid lo hi wk wl) (h1 : w3.heap.size ≤ lo) (h2 : P3 < lo) (h3 : hi ≤ P4) (h4 : hi ≤ P5) (h5 : hi ≤ P6) (h6 : lo ≤ wk.heap.size) : LSt P3 P4 P5 P6 x1 x2 b B s1 s2 g1 g2 t1 t2 e1 e2 rs w3 wl :=
  ⟨Below.trans h.ext ((m.below h6).mono h1), h.r0.mid m (Or.inl h2), h.rx.mid m (Or.inr h3), h.rg.mid m (Or.inr h5), h.ob.mid m h4⟩
theorem LSt.gb {X : Nat} (h : LSt P3 P4 P5 P6 x1 x2 b B s1 s2 g1 g2 t1 t2 e1 e2 rs w3 wk) (g : wk.grownBy wl (some X)) (h1 : w3.heap.size ≤ X) (h2 : P3 < X) (h3 : P4 < X) (h4 : X < P5) (h5 : X < P6) : LSt P3 P4 P5 P6 x1 x2 b B s1 s2 g1 g2 t1 t2 e1 e2 rs w3 wl :=
  ⟨h.ext.grown g h.ext.size (fun k hk => by cases hk; exact h1), h.r0.kept g (fun e => by cases e; omega), h.rx.kept g (fun e => by cases e; omega), h.rg.kept g (fun e => by cases e; omega), h.ob.far g (fun k hk => by cases hk; exact h4)⟩
theorem LSt.at (h : LSt P3 P4 P5 P6 x1 x2 b B s1 s2 g1 g2 t1 t2 e1 e2 rs w3 wk) (hn : B.batches.length ≤ 2199023255552) : BookAt wk g1 g2 B := own_book_at h.ob.ot h.ob.st h.ob.bs hn
end
theorem markBook_lens (B : Book) (k : Nat) : (markBook B k).things.length = B.things.length ∧ (markBook B k).batches.length = B.batches.length := ⟨marksOf_length _ _, markTo_length _ _ _⟩
theorem OB.marked {w : World} {base k : Nat} {a1 a2 : Option Addr} {c1 c2 : Nat} {rs : List Row} {B : Book} (h : OB w base (.slice a1 B.things.length c1) (.slice a2 B.batches.length c2) rs (markBook B k)) (hn : B.batches.length ≤ 2199023255552) : BookAt w a1 a2 (markBook B k) := by
  obtain ⟨l1, l2⟩ := markBook_lens B k
  rw [← l1, ← l2] at h
  rw [← l2] at hn
  exact own_book_at h.ot h.st h.bs hn
end Go.Proofs.YtdafpnpfcmgfcabGreatDoor
