/- What the law FnAsk says of asking, over books as lists. From the lone machine's steps to the way in company. The way in company, carried out by the machine beside those that are only leaving. -/
import Derived.Test.YteaincbmnhehcaaGreatDoorKa25
import Derived.Test.YteaincbmnhehcaaGreatDoorKa16
import Derived.Test.YteaincbmnhehcaaGreatDoorKa38
import Derived.Test.YteaincbmnhehcaaGreatDoorKa06
import Derived.Conc.LoneCalls
import Derived.Conc.CrowdTrace
namespace Go.Proofs.YteaincbmnhehcaaGreatDoor
section
theorem where_name {b : Book} {n : Str} (_ : bookOk b = true) (h : hereB b n = true) : (nthB b.batches (whereB b n)).name = n := by
 have hm : n ∈ namesOf b.batches := hasB_true.1 h
 have h2 := place_nth hm
 have h1 : place (namesOf b.batches) n < b.batches.length := by have := place_lt.2 hm; rwa [namesOf_length] at this
 rw [nth_namesOf h1] at h2
 exact h2
theorem name_ne {b : Book} (hok : bookOk b = true) {i : Nat} (hi : i < b.batches.length) : (nthB b.batches i).name ≠ [] := fun e => by
 have h := (ok_batch hok hi).1
 have e' : (b.at i).name = [] := e
 rw [e'] at h
 simp [nameOk] at h
theorem with_give {b : Book} {n : Str} {things : List Str} (hok : bookOk b = true) (hh : hereB b n = true) (hth : namesOk things (b.at (whereB b n)).needs = true) : withB b n things = giveB b (whereB b n) things := by
 have hk := where_lt hh
 have hn := where_name hok hh
 unfold withB giveB
 congr 1
 refine List.ext_getElem (by simp) fun i h1 h2 => ?_
 have hi : i < b.batches.length := by simpa using h1
 rw [List.getElem_map, List.getElem_set]
 have e0 : b.batches[i] = nthB b.batches i := (nthB_get hi).symm
 rw [e0]
 split
 ·rename_i e
  subst e
  have hea := each_at (ok_iff.1 hok) hk
  have hg := kept_give (namesOk_iff.1 hea.1).1 hea.2 hth
  have hf : withN (nthB b.batches (whereB b n)) things = keptL (b.at (whereB b n)).needs ((b.at (whereB b n)).has ++ things) := by
   unfold withN keptL
   congr 1
   funext t
   rw [Bool.eq_iff_iff, Bool.or_eq_true, hasB_true, hasB_true, hasB_true, List.mem_append]
   rfl
  unfold withX
  rw [if_pos (by rw [hn]; simp), hf, hg]
  show Batch.mk n _ _ = Batch.mk (nthB b.batches (whereB b n)).name _ _
  rw [hn]
  rfl
 ·rename_i e
  unfold withX
  rw [if_neg]
  intro hq
  have hq' : (nthB b.batches i).name = n := by simpa using hq
  exact e (name_uniq hok hk hi (hn.trans hq'.symm))
structure SixP (b : Book) (n : Str) (things : List Str) : Prop where
 ok : bookOk b = true
 here : hereB b n = true
 list : namesOk things (b.at (whereB b n)).needs = true
 free : takenB b (whereB b n) things = false
 safe : safeB b = true
 bad : safeB (giveB b (whereB b n) things) = false
theorem six_parts {b : Book} {n : Str} {things : List Str} (h : (askB b n things).2 = 6) : SixP b n things := by
 unfold askB at h
 split at h
 ·cases h
 ·rename_i h1
  split at h
  ·cases h
  ·rename_i h2
   split at h
   ·cases h
   ·rename_i h3
    split at h
    ·cases h
    ·rename_i h4
     split at h
     ·rename_i h5
      exact ⟨by simpa using h1, by simpa using h2, by simpa using h3, by simpa using h4, h5.1, h5.2⟩
     ·cases h
theorem six_with {b : Book} {n : Str} {things : List Str} (h : (askB b n things).2 = 6) : someB (withB b n things) (withB b n things).batches.length [] = false := by
 have p := six_parts h
 rw [some_safe, with_give p.ok p.here p.list]
 exact p.bad
theorem six_moves {b : Book} {n : Str} {things : List Str} (h : (askB b n things).2 = 6) : hasB (movesL b) n = false := by
 have p := six_parts h
 cases hm : hasB (movesL b) n
 ·rfl
 exfalso
 have hk := where_lt p.here
 have hn := where_name p.ok p.here
 have hml : movesL b = pickL (fun i => canB b i []) b.batches b.batches.length := by simp [movesL, p.ok]
 rw [hasB_true, hml, pickL_mem] at hm
 obtain ⟨j, hj, hcan, hjn⟩ := hm
 obtain rfl : j = whereB b n := name_uniq p.ok hj hk (hjn.trans hn.symm)
 have hcn := (can_iff p.ok hk).1 hcan
 rw [hn] at hcn
 have hok' : bookOk (giveB b (whereB b n) things) = true := ok_iff.2 (give_ok (ok_iff.1 p.ok) hk p.list p.free)
 obtain ⟨o, hf⟩ := (safe_iff p.ok).1 p.safe
 have hmem : ∀ X ∈ (giveB b (whereB b n) things).batches, (X.name = n ∧ X.needs = (nthB b.batches (whereB b n)).needs) ∨ (X ∈ b.batches ∧ X.name ≠ n) := by
  intro X hX
  obtain ⟨i, hi, rfl⟩ := mem_nthB hX
  have hib : i < b.batches.length := by simpa [giveB] using hi
  rw [nthB_get hi]
  by_cases e : whereB b n = i
  ·left
   subst e
   have e1 : (giveB b (whereB b n) things).batches[whereB b n] = ⟨(b.at (whereB b n)).name, things.foldl insS (b.at (whereB b n)).has, (b.at (whereB b n)).needs⟩ := by
    simp only [giveB, List.getElem_set_self]
   rw [e1]
   exact ⟨hn, rfl⟩
  ·right
   have e1 : (giveB b (whereB b n) things).batches[i] = nthB b.batches i := by
    simp only [giveB]
    rw [List.getElem_set_ne e, nthB_get hib]
   rw [e1]
   exact ⟨nthB_mem hib, fun e2 => e (name_uniq p.ok hk hib (hn.trans e2.symm))⟩
 have hnames : namesOf (giveB b (whereB b n) things).batches = namesOf b.batches := by
  refine List.ext_getElem (by simp [giveB, namesOf]) fun i h1 h2 => ?_
  have hib : i < b.batches.length := by simpa [namesOf] using h2
  simp only [namesOf, giveB, List.getElem_map, List.getElem_set]
  split
  ·rename_i e
   subst e
   show (nthB b.batches (whereB b n)).name = _
   rw [nthB_get hib]
  ·rfl
 have hbad : safeB (giveB b (whereB b n) things) = true := by
  refine (safe_iff hok').2 ⟨n :: o.filter (fun x => x != n), fun x hx => ?_, fun x hx => ?_, ?_, fun l x r e X hX hXn Y hY hYn hYl t ht hne => ?_⟩
  ·rw [hnames] at hx
   by_cases e : x = n
   ·subst e; simp
   ·exact List.mem_cons_of_mem _ (List.mem_filter.2 ⟨hf.all x hx, by simpa using e⟩)
  ·rw [hnames]
   rcases List.mem_cons.1 hx with rfl | hx
   ·exact hasB_true.1 p.here
   ·exact hf.only x (List.mem_filter.1 hx).1
  ·exact List.nodup_cons.2 ⟨fun h => by simp at h, hf.nodup.filter _⟩
  ·cases l with
   | nil =>
    simp only [List.nil_append, List.cons.injEq] at e
    obtain ⟨rfl, _⟩ := e
    rcases hmem X hX with ⟨_, h2⟩ | ⟨_, h2⟩
    ·rcases hmem Y hY with ⟨h3, _⟩ | ⟨h3, _⟩
     ·exact hYn h3
     ·rw [h2] at hne
      exact hcn _ (nthB_mem hk) hn Y h3 hYn (by simp) t ht hne
    ·exact h2 hXn
   | cons z l =>
    simp only [List.cons_append, List.cons.injEq] at e
    obtain ⟨rfl, e⟩ := e
    have hYz : Y.name ≠ n := fun h => hYl (by rw [h]; simp)
    rcases hmem Y hY with ⟨h3, _⟩ | ⟨h3, _⟩
    ·exact hYz h3
    obtain ⟨l1, l2, e1, e2, e3⟩ := List.filter_eq_append_iff.1 e
    obtain ⟨m1, m2, f1, f2, f3, f4⟩ := List.filter_eq_cons_iff.1 e3
    have hxn : x ≠ n := by simpa using f3
    rcases hmem X hX with ⟨h4, _⟩ | ⟨h4, _⟩
    ·exact hxn (hXn.symm.trans h4)
    refine hf.can (l1 ++ m1) x m2 (by rw [e1, f1]; simp) X h4 hXn Y h3 hYn (fun hm => ?_) t ht hne
    rw [List.mem_append] at hm
    rcases hm with hm | hm
    ·exact hYl (List.mem_cons_of_mem _ (by rw [← e2]; exact List.mem_filter.2 ⟨hm, by simpa using hYz⟩))
    ·exact f2 _ hm (by simpa using hYz)
 rw [p.bad] at hbad
 cases hbad
theorem zero_who {b : Book} {n : Str} {things : List Str} (h : (askB b n things).2 = 0) {t : Str} (ht : t ∈ things) : whoOf (askB b n things).1 t = n := by
 obtain ⟨hok, hh, hl⟩ := ask_zero h
 have hok' : bookOk (askB b n things).1 = true := ask_ok hok
 have hk := where_lt hh
 have hn := where_name hok hh
 have hbk : (askB b n things).1 = giveB b (whereB b n) things := by
  have := ask_book b n things
  rw [if_pos h] at this
  exact this.symm
 rw [hbk] at hok' ⊢
 unfold whoOf
 rw [if_pos hok']
 have hk' : whereB b n < (giveB b (whereB b n) things).batches.length := by simpa [giveB] using hk
 have e1 : nthB (giveB b (whereB b n) things).batches (whereB b n) = ⟨(b.at (whereB b n)).name, things.foldl insS (b.at (whereB b n)).has, (b.at (whereB b n)).needs⟩ := by
  rw [nthB_get hk']
  simp only [giveB, List.getElem_set_self]
 have hin : t ∈ (nthB (giveB b (whereB b n) things).batches (whereB b n)).has := by
  rw [e1]; exact mem_fold things (.inr ht)
 have h1 := whoFrom_at (t := t) hk' (hasB_true.2 hin) (fun j hj => by
  cases hq : hasB (nthB (giveB b (whereB b n) things).batches j).has t
  ·rfl
  ·exact (ok_apart hok' hk' hj hin (hasB_true.1 hq)).elim)
 rw [h1, e1]
 exact hn
theorem zero_safe {b : Book} {n : Str} {things : List Str} (h : (askB b n things).2 = 0) : (safeB (askB b n things).1 || !safeB b) = true := by
 have hbk : (askB b n things).1 = giveB b (whereB b n) things := by
  have := ask_book b n things
  rw [if_pos h] at this
  exact this.symm
 rw [hbk]
 cases hs : safeB b
 ·simp
 ·cases hg : safeB (giveB b (whereB b n) things)
  ·exfalso
   unfold askB at h
   split at h
   ·cases h
   ·split at h
    ·cases h
    ·split at h
     ·cases h
     ·split at h
      ·cases h
      ·rw [if_pos ⟨hs, hg⟩] at h
       cases h
  ·rfl
theorem five_who {b : Book} {n : Str} {things : List Str} (h : (askB b n things).2 = 5) : ∃ i, i < things.length ∧ whoOf b (nth things i) ≠ n ∧ whoOf b (nth things i) ≠ [] := by
 unfold askB at h
 split at h
 ·cases h
 ·rename_i h1
  have hok : bookOk b = true := by simpa using h1
  split at h
  ·cases h
  ·rename_i h2
   have hh : hereB b n = true := by simpa using h2
   split at h
   ·cases h
   ·split at h
    ·rename_i h4
     unfold takenB at h4
     obtain ⟨i, hi, h5⟩ := anyLt_true.1 h4
     simp only [Bool.and_eq_true, Bool.not_eq_true', beq_eq_false_iff_ne] at h5
     obtain ⟨h6, h7⟩ := h5
     obtain ⟨t, ht1, ht2⟩ := shareB_true.1 h7
     obtain ⟨k, hk, e⟩ := List.getElem_of_mem ht2
     have hw : whoOf b t = (nthB b.batches i).name := by
      unfold whoOf
      rw [if_pos hok]
      exact whoFrom_at hi (hasB_true.2 ht1) (fun j hj => by
       cases hq : hasB (nthB b.batches j).has t
       ·rfl
       ·exact (ok_apart hok hi hj ht1 (hasB_true.1 hq)).elim)
     refine ⟨k, hk, ?_, ?_⟩
     ·rw [nth_get hk, e, hw]
      intro e2
      exact h6 (name_uniq hok hi (where_lt hh) (e2.trans (where_name hok hh).symm))
     ·rw [nth_get hk, e, hw]
      exact name_ne hok hi
    ·split at h
     ·cases h
     ·cases h
theorem rest_book {b : Book} {n : Str} {things : List Str} (h0 : (askB b n things).2 ≠ 0) (h1 : (askB b n things).2 ≠ 1) : (askB b n things).1 = b := by
 have := ask_book b n things
 rw [if_neg h0, if_neg h1] at this
 exact this.symm
theorem one_book {b : Book} {n : Str} {things : List Str} (h1 : (askB b n things).2 = 1) : (askB b n things).1 = emptyBook := by
 have := ask_book b n things
 rw [if_neg (by rw [h1]; decide), if_pos h1] at this
 exact this.symm
end
section
open Go Go.Conc
section
variable {Q P : Program} {S : Sh}
theorem step_solo_ended {a : Goroutine} {w w' : World} {o : Outcome} {es : Array Event} (hs : a.status = .running) (h : stepG Q true a w = .ended o w' es) : step Q (solo a w) = .ended o w' := by
 rw [step, stepT_solo hs]
 simp [runT, solo, Array.swapAt!, Array.swapAt, h]
theorem solo_inj {g g' : Goroutine} {w w' : World} (h : solo g w = solo g' w') : g = g' ∧ w = w' := by
 simp only [solo, Machine.mk.injEq] at h
 exact ⟨by simpa using h.2.1, h.1⟩
theorem Cp.same {v w : World} (h : Cp S v w) : Cp S v { w with tape := v.tape, drawn := v.drawn } := ⟨h.size, h.low, h.out, h.brk, h.os, h.output, h.mark, h.cold⟩
theorem rn_of_runN (hT : Tamed Q P) {Stop : Goroutine → World → Prop} : ∀ (n : Nat) (g : Goroutine) (v w : World) (g1 : Goroutine) (v1 : World), Ok P g → Cp S v w → runN Q n (solo (ext g) v) = .next (solo g1 v1) → Stop g1 v1 → Rn Q Stop n (ext g) v := by
 intro n
 induction n with
 | zero =>
  intro g v w g1 v1 _ _ hr hs
  simp only [runN] at hr
  obtain ⟨rfl, rfl⟩ := solo_inj (Stepped.next.inj hr)
  exact hs
 | succ n ih =>
  intro g v w g1 v1 hok hc hr hs
  obtain ⟨c, hstep⟩ := (kept (S := S) hT).step g { w with tape := v.tape, drawn := v.drawn } hok
  have hrun : (ext g).status = .running := hok.run
  rcases hstep v hc.same (fun i _ => rfl) with ⟨o, v', es, he⟩ | ⟨g', v2, es, he, hrest⟩
  ·exfalso
   simp only [runN, step_solo_ended hrun he] at hr
   cases hr
  ·have hst := step_solo_go hrun he
   simp only [runN, hst] at hr
   refine .inr ⟨g', v2, es, he, ?_⟩
   rcases hrest with hstub | ⟨gc, rfl, hok', _, _, w1, _, _, _, c1, _, _⟩
   ·cases n with
    | zero =>
     simp only [runN] at hr
     obtain ⟨rfl, rfl⟩ := solo_inj (Stepped.next.inj hr)
     exact hs
    | succ n =>
     exfalso
     obtain ⟨o, v', es', he'⟩ := stub_ends (Q := Q) hstub v2
     simp only [runN, step_solo_ended hstub.2.1 he'] at hr
     cases hr
   ·exact ih gc v2 w1 g1 v1 hok' c1 hr hs
def Came (b : Frame) (k : List Item) (cs : List Frame) : Exit → Act → Goroutine → Prop
 | .normal, a, g => g = G (b.at a k) cs
 | .exit id, a, g => ∃ k', exitTo id k = some k' ∧ g = G (b.at a k') cs
 | .ret, a, g => ∃ todo, g = G { b.at a todo with mode := .returning } cs
 | _, _, _ => False
def Willing (k : List Item) : Prop := ∀ why, k ≠ [.code (.refuse why)]
def Ways (k : List Item) : Exit → Prop
 | .normal => Willing k
 | .exit id => ∃ k', exitTo id k = some k' ∧ Willing k'
 | .ret => True
 | _ => False
theorem ext_G (fr : Frame) (cs : List Frame) : ext (G fr cs) = G fr (cs ++ [bottom]) := rfl
theorem came_ext {b : Frame} {k : List Item} {cs : List Frame} {e : Exit} {a : Act} {g : Goroutine} (h : Came b k (cs ++ [bottom]) e a (ext g)) : Came b k cs e a g := by
 cases e with
 | normal => exact ext_inj (h.trans (ext_G _ _).symm)
 | exit id => obtain ⟨k', h1, h2⟩ := h; exact ⟨k', h1, ext_inj (h2.trans (ext_G _ _).symm)⟩
 | ret => obtain ⟨todo, h⟩ := h; exact ⟨todo, ext_inj (h.trans (ext_G _ _).symm)⟩
 | _ => exact h.elim
theorem came_willing {b : Frame} {k : List Item} {cs : List Frame} {e : Exit} {a : Act} {g : Goroutine} (h : Came b k cs e a g) (hw : Ways k e) : ¬ Stub g := by
 rintro ⟨_, _, h2⟩
 cases e with
 | normal =>
  obtain rfl : g = G (b.at a k) cs := h
  rcases h2 with ⟨why, h2, _⟩ | ⟨ch, h2, _⟩
  ·exact hw why h2
  ·cases h2
 | exit id =>
  obtain ⟨k', h1, rfl⟩ := h
  obtain ⟨k2, h3, h4⟩ := hw
  rw [h1] at h3
  obtain rfl := Option.some.inj h3
  rcases h2 with ⟨why, h2, _⟩ | ⟨ch, h2, _⟩
  ·exact h4 why h2
  ·cases h2
 | ret =>
  obtain ⟨todo, rfl⟩ := h
  rcases h2 with ⟨why, _, h2⟩ | ⟨ch, h2, _⟩ <;> cases h2
 | _ => exact h.elim
theorem rb_arrives (hT : Tamed Q P) {b : Frame} {a : Act} {k todo : List Item} {cs : List Frame} {v w : World} {R : Exit → Act → World → Prop} (hb : b.kind = .normal) (ha : a.defers = []) (hk : ∀ i ∈ todo, okItem P i = true) (hcs : ∀ c ∈ cs, FrameOk P c)
  (hc : Cp S v w) (H : ∀ T, ∃ e a' v', R e a' v' ∧ Arrives Q (lone (b.at a todo) (cs ++ [bottom]) (World.re v 0 T)) b k (cs ++ [bottom]) e a' v') (hR : ∀ e a' v', R e a' v' → Ways k e) :
  Rb P S (fun g w => ∃ e a' v', Cp S v' w ∧ R e a' v' ∧ Came b k cs e a' g) (G (b.at a todo) cs) w := by
 have hok : Ok P (G (b.at a todo) cs) := ⟨rfl, rfl, ⟨hb, fun d hd => (by have hd' : d ∈ a.defers := hd; rw [ha] at hd'; cases hd'), hk⟩, hcs⟩
 have key := lift (Stop := fun g v' => ∃ e a', R e a' v' ∧ Came b k (cs ++ [bottom]) e a' g) (kept hT) (fun g v' hs ⟨e, a', hr, hcm⟩ => came_willing hcm (hR _ _ _ hr) hs) hc hok (fun T => ?_)
 ·refine Rb.trans key fun g w h => .stop fun w₁ h₁ => ?_
  obtain ⟨v', hc', e, a', hr, hcm⟩ := h w₁ h₁
  exact ⟨e, a', v', hc', hr, came_ext hcm⟩
 ·obtain ⟨e, a', v', hr, harr⟩ := H T
  have hw := hR _ _ _ hr
  have hc' : Cp S (World.re v 0 T) w := hc.re' 0 T
  rw [lone_eq_solo, ← ext_G] at harr
  cases e with
  | normal =>
   obtain ⟨n, hn⟩ := harr
   exact ⟨n, rn_of_runN hT n _ _ w _ _ hok hc' hn ⟨.normal, a', hr, rfl⟩⟩
  | exit id =>
   obtain ⟨k', h1, _⟩ := hw
   obtain ⟨n, hn⟩ := harr k' h1
   exact ⟨n, rn_of_runN hT n _ _ w _ _ hok hc' hn ⟨.exit id, a', hr, k', h1, rfl⟩⟩
  | ret =>
   obtain ⟨todo', n, hn⟩ := harr
   exact ⟨n, rn_of_runN hT n _ _ w _ _ hok hc' hn ⟨.ret, a', hr, todo', rfl⟩⟩
  | _ => exact hw.elim
theorem rb_wp (hT : Tamed Q P) {b : Frame} {a : Act} {c : Code} {k : List Item} {cs : List Frame} {v w : World} {R : Exit → Act → World → Prop} (hb : b.kind = .normal) (ha : a.defers = []) (hcd : okCode P c = true) (hk : ∀ i ∈ k, okItem P i = true) (hcs : ∀ c ∈ cs, FrameOk P c)
  (hc : Cp S v w) (H : ∀ T, c.wp Q R a (World.re v 0 T)) (hR : ∀ e a' v', R e a' v' → Ways k e) :
  Rb P S (fun g w => ∃ e a' v', Cp S v' w ∧ R e a' v' ∧ Came b k cs e a' g) (G (b.at a (.code c :: k)) cs) w :=
 rb_arrives hT hb ha (fun i hi => by
  rcases List.mem_cons.1 hi with rfl | hi
  ·exact hcd
  ·exact hk i hi) hcs hc (fun T => H T b k (cs ++ [bottom])) hR
end
end
section
open Go Go.Conc Go.ConcN
def ShOf (S : Sh) : Loc → Prop := fun l => ∃ a, l = .cell a ∧ S a.block
def TLow (B : Nat) (op : MemOp) : Prop := ∀ x, op.act.touch? = some x → x.loc.low B
structure Tr (S : Sh) (B n : Nat) (t : Trace) : Prop where
 ct : CT (ShOf S) (fun _ _ => False) (fun _ _ => False) t (n - 1)
 over : t.HandedOver
 hears : Deaf t 0 = 0
 seen : ∀ op ∈ t, TLow B op
section
variable {P : Program} {S : Sh} {B n : Nat} {t : Trace}
theorem low_of_okE {e : Event} (h : OkE S B e) : (MemAct.ofEvent e).low B := by
 obtain ⟨loc, wr, sy⟩ := e
 cases loc with
 | cell a => exact h.2
 | obj r =>
  obtain ⟨_, h2, h3⟩ := h
  cases wr <;> cases sy <;> first | exact h2 | cases h3
 | mark m => cases m <;> first | exact h.elim | trivial
 | output => trivial
 | _ => exact h.elim
theorem tlow_of_okE {e : Event} (h : OkE S B e) {x : Touch} (hx : (MemAct.ofEvent e).touch? = some x) : x.loc.low B := by
 obtain ⟨loc, wr, sy⟩ := e
 cases loc with
 | cell b =>
  simp only [MemAct.ofEvent, MemAct.touch?, Option.some.injEq] at hx
  subst hx
  exact h.2
 | obj r =>
  obtain ⟨_, h2, h3⟩ := h
  cases wr <;> cases sy <;> simp only [MemAct.ofEvent, MemAct.touch?, Option.some.injEq] at hx <;> first | (cases hx; done) | (subst hx; exact h2)
 | mark m => cases m <;> first | exact h.elim | (simp [MemAct.ofEvent, MemAct.touch?] at hx)
 | output =>
  simp only [MemAct.ofEvent, MemAct.touch?, Option.some.injEq] at hx
  subst hx
  trivial
 | _ => exact h.elim
theorem touch_of_okE {e : Event} (h : OkE S B e) {x : Touch} (hx : (MemAct.ofEvent e).touch? = some x) : ¬ ShOf S x.loc := by
 obtain ⟨loc, wr, sy⟩ := e
 rintro ⟨a, ha, hs⟩
 cases loc with
 | cell b =>
  simp only [MemAct.ofEvent, MemAct.touch?, Option.some.injEq] at hx
  subst hx
  cases ha
  exact h.1 hs
 | obj r =>
  cases wr <;> cases sy <;> simp only [MemAct.ofEvent, MemAct.touch?, Option.some.injEq] at hx <;> first | (cases hx; done) | (subst hx; cases ha)
 | mark m => cases m <;> first | exact h.elim | (simp [MemAct.ofEvent, MemAct.touch?] at hx)
 | output =>
  simp only [MemAct.ofEvent, MemAct.touch?, Option.some.injEq] at hx
  subst hx
  cases ha
 | _ => exact h.elim
theorem still_of_okE {e : Event} (h : OkE S B e) : e.loc ≠ .mark .disable ∧ e.loc ≠ .mark .enable := by
 obtain ⟨loc, wr, sy⟩ := e
 cases loc with
 | mark m => cases m <;> first | exact h.elim | exact ⟨by simp, by simp⟩
 | _ => exact ⟨by simp, by simp⟩
theorem apart_none (Sh : Loc → Prop) : Apart Sh (fun _ _ => False) (fun _ _ => False) := ⟨fun _ _ _ h => h.elim, fun _ _ _ h => h.elim, fun _ _ h => h.elim, fun _ _ h => h.elim⟩
theorem Tr.mono {B' : Nat} (h : Tr S B n t) (hB : B ≤ B') : Tr S B' n t := ⟨h.ct, h.over, h.hears, fun op hop x hx => Loc.low_mono hB (h.seen op hop x hx)⟩
theorem Tr.own (h : Tr S B n t) {fn : FuncId} {pos : String} {es : Array Event} (hes : ∀ e ∈ es, OkE S B e) : Tr S B n (t ++ MemOp.ofEvents 0 fn pos es) := by
 have hg : ∀ op ∈ MemOp.ofEvents 0 fn pos es, op.g = 0 := fun op hop => by obtain ⟨e, _, rfl⟩ := Go.Conc.mem_ofEvents hop; rfl
 refine ⟨h.ct.app0 (apart_none _) fun op hop => ?_, handedOver_app h.over fun op hop => .inl (hg op hop), ?_, fun op hop => ?_⟩
 ·obtain ⟨e, he, rfl⟩ := Go.Conc.mem_ofEvents hop
  exact ⟨rfl, fun x hx => .inr ⟨touch_of_okE (hes e he) hx, fun _ _ _ h => h, fun _ _ _ _ h => h⟩⟩
 ·rw [Deaf_own, deafBehind_still (fun e he => still_of_okE (hes e he))]
  exact h.hears
 ·rcases Array.mem_append.1 hop with hop | hop
  ·exact h.seen op hop
  ·obtain ⟨e, he, rfl⟩ := Go.Conc.mem_ofEvents hop
   exact fun x hx => tlow_of_okE (hes e he) hx
theorem Tr.mute (h : Tr S B n t) {g : Nat} (hg : 1 ≤ g) (hgn : g < n) {fn : FuncId} {pos : String} {es : Array Event} (hm : ∀ e ∈ es, e.mute = true) : Tr S B n (t ++ MemOp.ofEvents g fn pos es) := by
 refine ⟨h.ct.appW (apart_none _) hg (by omega) fun op hop => ?_, handedOver_app h.over fun op hop => .inr ?_, ?_, fun op hop => ?_⟩
 ·obtain ⟨e, he, rfl⟩ := Go.Conc.mem_ofEvents hop
  exact ⟨rfl, fun x hx => by rw [touch_mute (hm e he)] at hx; cases hx⟩
 ·obtain ⟨e, he, rfl⟩ := Go.Conc.mem_ofEvents hop
  exact touch_mute (hm e he)
 ·rw [Deaf_other t (g' := g) (by omega) _ (fun op hop => by obtain ⟨e, _, rfl⟩ := Go.Conc.mem_ofEvents hop; rfl)]
  exact h.hears
 ·rcases Array.mem_append.1 hop with hop | hop
  ·exact h.seen op hop
  ·obtain ⟨e, he, rfl⟩ := Go.Conc.mem_ofEvents hop
   exact fun x hx => by rw [touch_mute (hm e he)] at hx; cases hx
theorem low_bound (t : Trace) (B : Nat) : ∃ B', B ≤ B' ∧ ∀ op ∈ t, op.act.low B' := by
 have one : ∀ (x : MemAct) (B : Nat), ∃ B', B ≤ B' ∧ x.low B' := by
  intro x B
  cases x with
  | access e =>
   obtain ⟨loc, wr, sy⟩ := e
   cases loc with
   | cell a => exact ⟨max B (a.block + 1), by omega, show a.block < _ by omega⟩
   | obj r => exact ⟨max B (r + 1), by omega, show r < _ by omega⟩
   | _ => exact ⟨B, by omega, trivial⟩
  | mark m => cases m <;> first | exact ⟨B, by omega, trivial⟩ | (rename_i a; exact ⟨max B (a.block + 1), by omega, show a.block < _ by omega⟩)
  | go _ => exact ⟨B, by omega, trivial⟩
  | start => exact ⟨B, by omega, trivial⟩
  | send c _ => exact ⟨max B (c + 1), by omega, show c < _ by omega⟩
  | sendDone c _ => exact ⟨max B (c + 1), by omega, show c < _ by omega⟩
  | recv c _ _ => exact ⟨max B (c + 1), by omega, show c < _ by omega⟩
  | recvDone c _ => exact ⟨max B (c + 1), by omega, show c < _ by omega⟩
  | close c => exact ⟨max B (c + 1), by omega, show c < _ by omega⟩
  | recvClosed c => exact ⟨max B (c + 1), by omega, show c < _ by omega⟩
 have key : ∀ (l : List MemOp) (B : Nat), ∃ B', B ≤ B' ∧ ∀ op ∈ l, op.act.low B' := by
  intro l
  induction l with
  | nil => exact fun B => ⟨B, Nat.le_refl _, by simp⟩
  | cons y l ih =>
   intro B
   obtain ⟨B1, h1, h2⟩ := ih B
   obtain ⟨B2, h3, h4⟩ := one y.act B1
   refine ⟨B2, by omega, fun op hop => ?_⟩
   rcases List.mem_cons.1 hop with rfl | hop
   ·exact h4
   ·exact MemAct.low_mono h3 (h2 op hop)
 obtain ⟨B', h1, h2⟩ := key t.toList B
 exact ⟨B', h1, fun op hop => h2 op (by simpa using hop)⟩
theorem Tr.past (h : Tr S B n t) : ∃ B', B ≤ B' ∧ Past (ShOf S) B' t := by
 obtain ⟨B', hB', hlow⟩ := low_bound t B
 refine ⟨B', hB', h.ct.nr, fun i a ha hm => ?_, h.over, h.hears, hlow⟩
 by_cases hs : ShOf S a.loc
 ·obtain ⟨op, hop, hoa⟩ := touch_of ha
  obtain ⟨h1, h2⟩ := h.ct.quiet i op a hop hoa hs
  cases hk : a.kind with
  | plain => exact absurd hk h1
  | atomic => exact .inr ⟨hs, rfl⟩
  | said =>
   have := knows_own hop
   rw [h2 hk] at this
   exact .inl this
 ·exact .inl (h.ct.free a.loc hs (fun _ _ _ => ⟨fun h => h, fun h => h⟩) i a ha rfl)
theorem leavers_step {gs : Array Goroutine} {q : Nat → Nat} {g g' : Goroutine} {w' : World} {i : Nat} {fn : FuncId} {pos : String} {es : Array Event} (hL : Leavers P t gs q) (hi : i < gs.size) :
  (∀ j x, 0 < j → j ≠ i → ((gs.map (woken P g g' w')).setIfInBounds i g')[j]? = some x → QuitsD P (q j) (Deaf (t ++ MemOp.ofEvents i fn pos es) j) x) ∧ ∀ j, gs.size ≤ j → Deaf (t ++ MemOp.ofEvents i fn pos es) j = 0 := by
 have ho : ∀ op ∈ MemOp.ofEvents i fn pos es, op.g = i := fun op hop => by obtain ⟨e, _, rfl⟩ := Go.Conc.mem_ofEvents hop; rfl
 refine ⟨fun j x hj hji hx => ?_, fun j hj => ?_⟩
 ·rw [Array.getElem?_setIfInBounds_ne (Ne.symm hji), Array.getElem?_map] at hx
  obtain ⟨y, hy, rfl⟩ := Option.map_eq_some_iff.1 hx
  have hq := hL.old j y hj hy
  rw [woken_quitsD hq, Deaf_other t (Ne.symm hji) _ ho]
  exact hq
 ·rw [Deaf_other t (g' := i) (by omega) _ ho]
  exact hL.above j hj
theorem co_rb {X : Goroutine → World → Prop} {a : Goroutine} {w : World} (h : Rb P S X a w) : ∀ (d0 : Nat) (gs : Array Goroutine) (sl : Option (Nat × Nat)) (t : Trace) (q : Nat → Nat), gs[0]? = some a → Leavers P t gs q → Tr S w.heap.size gs.size t →
  ∃ (N : Nat) (gs' : Array Goroutine) (a' : Goroutine) (w' : World) (sl' : Option (Nat × Nat)) (t' : Trace) (q' : Nat → Nat), runNT P N (crowd gs (w.at d0) sl) t = (.next (crowd gs' w' sl'), t') ∧ gs'.size = gs.size ∧ gs'[0]? = some a' ∧ (∀ w₁, Sim S w' w₁ → X a' w₁) ∧ Leavers P t' gs' q' ∧ Tr S w'.heap.size gs'.size t' := by
 induction h with
 | @stop g w hX => exact fun d0 gs sl t q h0 hL hT => ⟨0, gs, g, w.at d0, sl, t, q, rfl, rfl, h0, fun w₁ h₁ => hX w₁ ((Sim.at S w d0).trans h₁), hL, hT⟩
 | @step g w Gn Wn En hrun hstep hE hsz _ ih =>
  intro d0 gs sl t q h0 hL hT
  have key : ∀ (M d0 : Nat) (gs : Array Goroutine) (sl : Option (Nat × Nat)) (t : Trace) (q : Nat → Nat), sumTo gs.size q < M → gs[0]? = some g → Leavers P t gs q → Tr S w.heap.size gs.size t →
    ∃ (N : Nat) (gs' : Array Goroutine) (a' : Goroutine) (w' : World) (sl' : Option (Nat × Nat)) (t' : Trace) (q' : Nat → Nat), runNT P N (crowd gs (w.at d0) sl) t = (.next (crowd gs' w' sl'), t') ∧ gs'.size = gs.size ∧ gs'[0]? = some a' ∧ (∀ w₁, Sim S w' w₁ → X a' w₁) ∧ Leavers P t' gs' q' ∧ Tr S w'.heap.size gs'.size t' := by
   intro M
   induction M with
   | zero => exact fun d0 gs sl t q hM => absurd hM (Nat.not_lt_zero _)
   | succ M ihM =>
    intro d0 gs sl t q hM h0 hL hT
    have haw : ∀ x ∈ gs, awake x := by
     intro x hx
     obtain ⟨i, hi, rfl⟩ := Array.mem_iff_getElem.1 hx
     rcases Nat.eq_zero_or_pos i with rfl | hpos
     ·have : gs[0] = g := by simpa [Array.getElem?_eq_getElem hi] using h0
      rw [this]; exact awake_of (.inl hrun)
     ·exact awake_of ((hL.old i _ hpos (Array.getElem?_eq_getElem hi)).status.elim .inl fun x => .inr (.inr x))
    obtain ⟨i, x, d, sl', hi, hx, hst⟩ := crowd_pick (P := P) (w := w.at d0) (sl := sl) haw ⟨0, g, h0, hrun⟩
    replace hst : stepT P (crowd gs (w.at d0) sl) = runT P (crowd gs (w.at d) sl') i := hst
    have hlt : i < gs.size := (Array.getElem?_eq_some_iff.1 hi).1
    rcases Nat.eq_zero_or_pos i with rfl | hpos
    ·obtain rfl : x = g := by rw [h0] at hi; exact (Option.some.inj hi).symm
     have hrunT := runT_crowd_go (P := P) (sl := sl') (i := 0) hi (show stepG P (0 == 0) x (w.at d) = _ from hstep (w.at d) (Sim.at S w d))
     have hsz' : ((gs.map (woken P x (Gn (w.at d)) (Wn (w.at d)))).setIfInBounds 0 (Gn (w.at d))).size = gs.size := by simp
     obtain ⟨l1, l2⟩ := leavers_step (fn := x.frame.fn) (pos := x.frame.place) (es := En (w.at d)) (g := x) (g' := Gn (w.at d)) (w' := Wn (w.at d)) hL hlt
     obtain ⟨N, gs', a', w', sl'', t', q', hr, hs', h0', hX, hL', hT'⟩ := ih (w.at d) (Sim.at S w d) (Wn (w.at d)).drawn ((gs.map (woken P x (Gn (w.at d)) (Wn (w.at d)))).setIfInBounds 0 (Gn (w.at d))) sl' (t ++ MemOp.ofEvents 0 x.frame.fn x.frame.place (En (w.at d))) q (by simp [hlt])
      ⟨fun j y hj hy => l1 j y hj (by omega) hy, fun j hj => l2 j (by simpa using hj)⟩ (by rw [hsz']; exact (hT.mono (hsz _ (Sim.at S w d))).own (hE _ (Sim.at S w d)))
     exact ⟨N + 1, gs', a', w', sl'', t', q', by simp only [runNT, hst, hrunT]; exact hr, hs'.trans hsz', h0', hX, hL', hT'⟩
    ·have hq := hL.old i x hpos hi
     have hi0 : (i == 0) = false := by simp; omega
     cases hqi : q i with
     | zero => rw [hqi] at hq; rw [hq.1] at hx; cases hx
     | succ k =>
      rw [hqi] at hq
      rcases hq with ⟨hf, _⟩ | ⟨_, g', es, hm, hstp, hq'⟩
      ·rw [hf] at hx; cases hx
      have hrunT := runT_crowd_go (P := P) (sl := sl') (i := i) hi (by rw [hi0]; exact hstp (w.at d))
      have hsz' : ((gs.map (woken P x g' (w.at d))).setIfInBounds i g').size = gs.size := by simp
      have hsum : sumTo gs.size (upd q i k) + (k + 1) = sumTo gs.size q + k := by
       have := sumTo_upd q k id hlt
       simpa [hqi] using this
      obtain ⟨l1, l2⟩ := leavers_step (fn := x.frame.fn) (pos := x.frame.place) (es := es) (g := x) (g' := g') (w' := w.at d) hL hlt
      obtain ⟨N, gs', a', w', sl'', t', q', hr, hs', h0', hX, hL', hT'⟩ := ihM d ((gs.map (woken P x g' (w.at d))).setIfInBounds i g') sl' (t ++ MemOp.ofEvents i x.frame.fn x.frame.place es) (upd q i k) (by rw [hsz']; omega)
       (by
        have hne : i ≠ 0 := by omega
        rw [Array.getElem?_setIfInBounds_ne hne, Array.getElem?_map, h0]
        simp [woken_run hrun])
       ⟨fun j y hj hy => by
        by_cases hji : j = i
        ·subst hji
         rw [Array.getElem?_setIfInBounds_self_of_lt (by simpa using hlt)] at hy
         obtain rfl := Option.some.inj hy
         rw [upd_same, Deaf_own]
         exact hq'
        ·rw [upd_ne q k hji]
         exact l1 j y hj hji hy, fun j hj => l2 j (by simpa using hj)⟩
       (by rw [hsz']; exact hT.mute hpos hlt hm)
      exact ⟨N + 1, gs', a', w', sl'', t', q', by simp only [runNT, hst, hrunT]; exact hr, hs'.trans hsz', h0', hX, hL', hT'⟩
  exact key _ d0 gs sl t q (Nat.lt_succ_self _) h0 hL hT
def Last (P : Program) (S : Sh) (Post : Value → World → Prop) (g : Goroutine) (w : World) : Prop :=
 g.status = .running ∧ ∃ v es, stepG P true g w = .ended (.done v) w es ∧ (∀ e ∈ es, OkE S w.heap.size e) ∧ Post v w
theorem evL_of_okE {B : Nat} {e : Event} (h : OkE S B e) : EvL (ShOf S) B e :=
 ⟨fun _ hx hs => absurd hs (touch_of_okE h hx), (still_of_okE h).1, (still_of_okE h).2, low_of_okE h⟩
theorem co_end {Post : Value → World → Prop} {gs : Array Goroutine} {a : Goroutine} {w : World} {sl : Option (Nat × Nat)} {q : Nat → Nat} (h0 : gs[0]? = some a) (hL : Leavers P t gs q) (hT : Tr S w.heap.size gs.size t) (h : ∀ w₁, Sim S w w₁ → Last P S Post a w₁) :
  ∃ N last o w' t', runNT P (N + 1) (crowd gs w sl) t = (.ended o w', t') ∧ runN P N (crowd gs w sl) = .next last ∧ step P last = .ended o w' ∧ Good P Post last o w' t' := by
 obtain ⟨B', hB', hP⟩ := hT.past
 exact beside_ends (D := fun _ _ _ => False) (B := B') (Shun := ShOf S) (n := 0) (fun _ _ _ h => h.elim) h0 hL hP (fun w1 hw1 => by
  obtain ⟨d, rfl⟩ := hw1
  obtain ⟨h1, v, es, h2, h3, h4⟩ := h _ (Sim.at S w d)
  exact ⟨h1, v, es, h2, fun e he => evL_of_okE ((h3 e he).mono hB'), h4⟩)
end
end
end Go.Proofs.YteaincbmnhehcaaGreatDoor
