/- placesWhere, whole, beside those that are only leaving. -/
import Derived.Test.YtdafpnpfcmgfcabCrewS
import Derived.Test.YtdafpnpfcmgfcabJD
namespace Go.Proofs.Ytdafpnpfcmgfcab
open Go Go.Conc Go.ConcN Go.RowKit Go.Conc.Lib Go.ConcR.Gen Go.ConcN.Gen
open Go.ConcR (KK wgBlock WgAt stA smA rd wr mk Payload Aside2 DC0 ofEvent_cell)

/-- What is noted of a place. -/
def bitW (yes : Nat → Bool) (i : Nat) : Nat := if yes i = true then 2 ^ i else 0
/-- A look: in company it says what it says, and only reads what the lone run knew. -/
def LookW (v : World) (cnt : Nat) (lf : FuncId) (first cap : Array Value) (yes : Nat → Bool) : Prop :=
  ∀ (S : Nat → Prop) (B0 bs i : Nat), i < cnt → (∀ b, S b → b < B0) → (∀ b k x, v.cell? ⟨b, k, none⟩ = some x → b ≤ B0 ∧ ¬ S b) →
    ∃ nf, ∀ w, (∀ b k x, v.cell? ⟨b, k, none⟩ = some x → w.cell? ⟨b, k, none⟩ = some x) → CallsC Try.prog false (RWk 93 B0 i) (DWk S B0 bs i) lf (first ++ #[.int .i64 i] ++ cap) nf w (fun r w' => r = .bool (yes i) ∧ RWk 93 B0 i w w')

theorem sumBit_lt (yes : Nat → Bool) : ∀ n, sumTo n (bitW yes) < 2 ^ n := by
  intro n
  induction n with
  | zero => simp [sumTo]
  | succ n ih =>
    have : bitW yes n ≤ 2 ^ n := by unfold bitW; split <;> simp
    simp only [sumTo]
    rw [Nat.pow_succ]
    omega
theorem bitsIn_le (bit : Nat → Nat) (Ad : Nat → Bool) : ∀ n, bitsIn bit n Ad ≤ sumTo n bit := by
  intro n
  induction n with
  | zero => simp [bitsIn, sumTo]
  | succ n ih =>
    simp only [bitsIn, sumTo] at ih ⊢
    split <;> omega
theorem bits_ok {yes : Nat → Bool} {n : Nat} (hn : n ≤ 31) (Ad : Nat → Bool) : 0 + bitsIn (bitW yes) n Ad < 4294967296 := by
  have h1 := bitsIn_le (bitW yes) Ad n
  have h2 := sumBit_lt yes n
  have h3 : 2 ^ n ≤ 2 ^ 31 := Nat.pow_le_pow_right (by omega) hn
  omega

section
variable {S : Nat → Prop} {base cnt : Nat} {yes : Nat → Bool} {lf : FuncId} {first cap : Array Value} {v : World} {cs : List Frame}

/-- One round: a worker more. -/
theorem round_in {T0 j : Nat} {a : Goroutine} {u : World} {vm : Nat} {m : Machine} {t : Trace} (hcnt : cnt ≤ 31) (hj : j < cnt) (hS : ∀ b, S b → b < v.heap.size) (hkn : ∀ b k x, v.cell? ⟨b, k, none⟩ = some x → b ≤ v.heap.size ∧ ¬ S b) (hlook : LookW v cnt lf first cap yes)
    (hu : Vj v (.func (.func lf) first cap) 47 j u) (h : Here Try.prog 93 86 S v.heap.size base (bitW yes) T0 0 j (.sp 0 5) 0 a u vm m t) (hs : ∀ w₁, WgLive 93 (v.heap.size + 2) w₁ → HeadP v.heap.size cnt (.func (.func lf) first cap) cs j a w₁) :
    Rch Try.prog m t (fun m' t' => ∃ a' u' vm', Vj v (.func (.func lf) first cap) 47 (j + 1) u' ∧ Here Try.prog 93 86 S v.heap.size base (bitW yes) T0 0 (j + 1) (.sp 0 5) 0 a' u' vm' m' t' ∧ ∀ w₁, WgLive 93 (v.heap.size + 2) w₁ → HeadP v.heap.size cnt (.func (.func lf) first cap) cs (j + 1) a' w₁) := by
  have hb : ∀ Ad', 0 + bitsIn (bitW yes) j Ad' < 4294967296 := fun Ad' => bits_ok (by omega) Ad'
  have hb' : ∀ Ad', 0 + bitsIn (bitW yes) (j + 1) Ad' < 4294967296 := fun Ad' => bits_ok (by omega) Ad'
  have hj5 : j + pend (.sp 0 5) < 2147483648 := by simp [pend]; omega
  have hj3 : j + pend (.sp 0 3) < 2147483648 := by simp [pend]; omega
  have hg : ∃ k w1, Goes Try.prog true (RS 93 (v.heap.size + 2)) DC0 (AtNew Try.prog 93 v.heap.size (v.heap.size + 3 + j) (.cells #[.int .i64 0] 3) (AtStore Try.prog 93 v.heap.size (v.heap.size + 3 + j) (.int .i64 j)
      (AtWord Try.prog 93 (v.heap.size + 2) .disable (AtPlus Try.prog 93 (v.heap.size + 2) (fun g w => ∃ k, Goes Try.prog true (RS 93 (v.heap.size + 2)) DC0 (AtSpawn Try.prog 93 v.heap.size (born Try.prog (callW v.heap.size j)) (HeadP v.heap.size cnt (.func (.func lf) first cap) cs (j + 1))) k g w))))) k a w1 := by
    obtain ⟨gs, w, sl, D, Ad, q, st, sm, _, _, hc, _⟩ := h
    obtain ⟨k, hk⟩ := roundP hj (by omega) ⟨_, _, hc.wg⟩ (hs w ⟨_, _, hc.wg⟩)
    exact ⟨k, w, hk⟩
  obtain ⟨k, w1, hg⟩ := hg
  have hu1 : (u.alloc (.cells #[.int .i64 0] 3)).heap[v.heap.size + 3 + j]? = some (.cells #[.int .i64 0] 3) := by
    show (u.heap.push _)[v.heap.size + 3 + j]? = _
    rw [← hu.size]; simp
  refine (Here.goes (by simp) hj5 hb k a w1 m t hg h).trans fun m1 t1 ⟨a1, hs1, h1⟩ => ?_
  refine (h1.new hs1 hu.size rfl (by simp) hj5 hb).trans fun m2 t2 ⟨a2, hs2, h2⟩ => ?_
  refine (h2.store hs2 hu1 hS (by simp) hj5 hb).trans fun m3 t3 ⟨a3, hs3, h3⟩ => ?_
  refine (h3.add hs3 (by omega) hb).trans fun m4 t4 ⟨a4, hs4, h4⟩ => ?_
  -- what the lone run sees now
  obtain ⟨u4, hu4⟩ : ∃ u4, u4 = (u.alloc (.cells #[.int .i64 0] 3)).setCell ⟨v.heap.size + 3 + j, 0, none⟩ (.int .i64 j) := ⟨_, rfl⟩
  rw [← hu4] at h4
  have hA := aside_setCell (u.alloc (.cells #[.int .i64 0] 3)) ⟨v.heap.size + 3 + j, 0, none⟩ (.int .i64 j)
  rw [← hu4] at hA
  have s4 : u4.heap.size = v.heap.size + 3 + (j + 1) := by
    rw [hA.size]
    show (u.heap.push _).size = _
    simp [hu.size]; omega
  have l4 : ∀ b, b < v.heap.size + 3 + j → u4.heap[b]? = u.heap[b]? := fun b hb => by
    rw [hA.block b (by simp; omega)]
    exact get_push (by rw [hu.size]; exact hb)
  have b4 : u4.heap[v.heap.size + 3 + j]? = some (.cells #[.int .i64 j] 3) := by
    rw [hu4, setCell_eq_setRow _ _ _ _ _ (0, 0) _ hu1, setRow_heap _ _ _ _ _ _ hu1]
    rfl
  have hnS : ¬ SJ S v.heap.size j (v.heap.size + 3 + j) := by
    rintro ((h | h | h) | ⟨i, hi, h⟩)
    · have := hS _ h; omega
    · omega
    · omega
    · omega
  have row4 : ∀ w, Cp (SJ S v.heap.size j) u4 w → w.heap[v.heap.size + 3 + j]? = some (.cells #[.int .i64 j] 3) := fun w hcp => by
    have := hcp.out _ hnS
    rw [b4] at this
    obtain ⟨o, ho, hvo⟩ := Option.map_eq_some_iff.1 this.symm
    rw [ho, veil_cells.1 hvo]
  have hg4 : ∃ k w1, Goes Try.prog true (RS 93 (v.heap.size + 2)) DC0 (AtSpawn Try.prog 93 v.heap.size (born Try.prog (callW v.heap.size j)) (HeadP v.heap.size cnt (.func (.func lf) first cap) cs (j + 1))) k a4 w1 := by
    obtain ⟨gs, w, sl, D, Ad, q, st, sm, _, _, hc, _⟩ := h4
    obtain ⟨k, hk⟩ := hs4 w ⟨_, _, hc.wg⟩
    exact ⟨k, w, hk⟩
  obtain ⟨k4, w4, hg4⟩ := hg4
  refine (Here.goes (by simp) hj3 hb k4 a4 w4 m4 t4 hg4 h4).trans fun m5 t5 ⟨a5, hs5, h5⟩ => ?_
  -- the worker
  obtain ⟨nf, hnf⟩ := hlook S v.heap.size base j hj hS hkn
  have hl4 : u4.cell? ⟨v.heap.size, 0, none⟩ = some (.func (.func lf) first cap) := by
    refine (cell_of_block (l4 v.heap.size (by omega)) 0).trans ?_
    unfold World.cell?
    rw [hu.box]
    rfl
  obtain ⟨m0, hm0⟩ := worksW (S := S) (bs := base) (bit := bitW yes) (y := yes j) hS hl4 (fun w hw => hnf w fun b k x hx => hw b k x (hkn b k x hx).1 (by
      have hlt := cellv_lt hx
      rw [← hx]
      exact cell_of_block ((l4 b (by omega)).trans (hu.low b hlt)) k)) (by omega) (fun e => by simp [bitW, e])
  refine (h5.start (ad := !yes j) (m0 := m0) (v2 := { u4 with heap := u4.heap.setIfInBounds (v.heap.size + 3 + j) (.cells #[] 3) }) hs5 (fun w hcp hlive => hm0 w ⟨fun b k x hb hx => (hcp.knows hx).2.1, ?_, hlive⟩) (fun e => by simp at e; simp [bitW, e]) (fun w hcp => ⟨⟨#[.int .i64 j], row4 w hcp, rfl⟩, by rw [← hcp.size, s4]; omega⟩) (fun w hcp => ?_) (by omega) hb hb').trans fun m6 t6 ⟨a6, hs6, h6⟩ => .refl ⟨a6, _, _, ⟨?_, fun b hb => ?_, ?_, ?_, ?_⟩, h6, hs6⟩
  · unfold World.cell?
    rw [row4 w hcp]
    rfl
  · refine (hcp.shun hnS (row4 w hcp)).same_set fun b => ⟨fun h => ?_, fun h => ?_⟩
    · rcases h with (h | ⟨i, hi, e⟩) | h
      · exact .inl h
      · exact .inr ⟨i, by omega, e⟩
      · exact .inr ⟨j, by omega, h⟩
    · rcases h with h | ⟨i, hi, e⟩
      · exact .inl (.inl h)
      · by_cases hij : i = j
        · subst hij; exact .inr e
        · exact .inl (.inr ⟨i, by omega, e⟩)
  · simpa using s4
  · show (u4.heap.setIfInBounds _ _)[b]? = _
    rw [Array.getElem?_setIfInBounds_ne (by omega), l4 b (by omega)]
    exact hu.low b hb
  · show (u4.heap.setIfInBounds _ _)[v.heap.size]? = _
    rw [Array.getElem?_setIfInBounds_ne (by omega), l4 _ (by omega)]
    exact hu.box
  · exact hA.os.trans hu.os
  · exact hA.output.trans hu.output

theorem loop_in {T0 : Nat} (hcnt : cnt ≤ 31) (hS : ∀ b, S b → b < v.heap.size) (hkn : ∀ b k x, v.cell? ⟨b, k, none⟩ = some x → b ≤ v.heap.size ∧ ¬ S b) (hlook : LookW v cnt lf first cap yes) :
    ∀ (r j : Nat) (a : Goroutine) (u : World) (vm : Nat) (m : Machine) (t : Trace), j + r = cnt → Vj v (.func (.func lf) first cap) 47 j u → Here Try.prog 93 86 S v.heap.size base (bitW yes) T0 0 j (.sp 0 5) 0 a u vm m t → (∀ w₁, WgLive 93 (v.heap.size + 2) w₁ → HeadP v.heap.size cnt (.func (.func lf) first cap) cs j a w₁) →
    Rch Try.prog m t (fun m' t' => ∃ a' u' vm', Vj v (.func (.func lf) first cap) 47 cnt u' ∧ Here Try.prog 93 86 S v.heap.size base (bitW yes) T0 0 cnt (.sp 0 5) 0 a' u' vm' m' t' ∧ ∀ w₁, WgLive 93 (v.heap.size + 2) w₁ → HeadP v.heap.size cnt (.func (.func lf) first cap) cs cnt a' w₁) := by
  intro r
  induction r with
  | zero =>
    intro j a u vm m t hjr hu h hs
    obtain rfl : j = cnt := by omega
    exact .refl ⟨a, u, vm, hu, h, hs⟩
  | succ r ih =>
    intro j a u vm m t hjr hu h hs
    exact (round_in hcnt (by omega) hS hkn hlook hu h hs).trans fun m' t' ⟨a', u', vm', hu', h', hs'⟩ => ih (j + 1) a' u' vm' m' t' (by omega) hu' h' hs'
end

section
variable {cnt : Nat} {yes : Nat → Bool} {lf : FuncId} {first cap : Array Value} {v : World} {b₁ : Frame} {a₁ : Act} {ops₁ : Array Oper} {i₁ : Nat} {rest₁ : List Nat} {k₁ : List Item} {cs₁ : List Frame}
/-- What the lone run sees has grown: some blocks more, none other. -/
structure Grew (v v' : World) : Prop where
  size : v.heap.size ≤ v'.heap.size
  low : ∀ b, b < v.heap.size → v'.heap[b]? = v.heap[b]?
  os : v'.os = v.os
  output : v'.output = v.output

/-- ████ placesWhere. ████ -/
theorem places_in [Floor] {m : Machine} {t : Trace} (h : AtM Try.prog (G ((base 45).at ⟨#[.int .i64 cnt, .func (.func lf) first cap] ++ Array.replicate 15 undef, []⟩ [.code bodyP]) (b₁.at a₁ (.inRegion ops₁ (i₁ :: rest₁) :: k₁) :: cs₁)) v m t) (hcnt : cnt ≤ 31) (hfl : Floor.low ≤ v.heap.size) (hlook : LookW v cnt lf first cap yes) :
    Rch Try.prog m t (fun m' t' => ∃ v', Grew v v' ∧ AtM Try.prog (G (b₁.at (a₁.put ((ops₁[i₁]?).bind (·.dst)) (.int .u32 ((sumTo cnt (bitW yes) : Nat) : Int))) (.inRegion ops₁ rest₁ :: k₁)) cs₁) v' m' t') := by
  obtain ⟨S, n, w, ⟨hn, hlo⟩, hcp, hB⟩ := h
  have hS : ∀ b, S b → b < v.heap.size := hcp.low
  have hsz : w.heap.size = v.heap.size := hcp.size.symm
  have hkn : ∀ b k x, v.cell? ⟨b, k, none⟩ = some x → b ≤ v.heap.size ∧ ¬ S b := fun b k x hx => by
    obtain ⟨h1, _, h3⟩ := hcp.knows hx
    exact ⟨by omega, h1⟩
  have hB3 := hB.shun (S' := S3 S v.heap.size) (fun b hb => .inl hb) fun b hb hb' => by
    rw [hsz]
    rcases hb with hb | hb | hb
    · exact absurd hb hb'
    · omega
    · omega
  -- its three variables
  refine (Beside.goes _ _ w m t (enterP (B0 := v.heap.size) w) hB3).trans fun m1 t1 ⟨a1, hs1, h1⟩ => ?_
  refine (h1.new hs1 hsz).trans fun m2 t2 ⟨a2, hs2, h2⟩ => ?_
  refine (h2.new hs2 (show (w.heap.push _).size = _ by simp [hsz])).trans fun m3 t3 ⟨a3, hs3, h3⟩ => ?_
  refine (h3.new hs3 (show ((w.heap.push _).push _).size = _ by simp [hsz])).trans fun m4 t4 ⟨a4, hs4, h4⟩ => ?_
  obtain ⟨w3, hw3⟩ : ∃ w3, w3 = ((w.alloc (.cells #[.func (.func lf) first cap] 47)).alloc (.cells #[.int .u32 0] 86)).alloc (wgBlock 93 0 0) := ⟨_, rfl⟩
  rw [← hw3] at h4
  have hs3' : w3.heap.size = v.heap.size + 3 := by
    rw [hw3]
    show (((w.heap.push _).push _).push _).size = _
    simp [hsz]
  have hno : NAt 86 v.heap.size 0 w3 := by
    unfold NAt
    rw [hw3, ← hsz]
    show (((w.heap.push _).push _).push _)[w.heap.size + 1]? = _
    rw [get_push (by simp), show w.heap.size + 1 = (w.heap.push (Obj.cells #[.func (.func lf) first cap] 47)).size by simp, Array.getElem?_push_size]
    rfl
  have hwg : WgAt 93 (v.heap.size + 2) w3 0 0 := by
    unfold WgAt
    rw [hw3, ← hsz]
    show (((w.heap.push _).push _).push _)[w.heap.size + 2]? = _
    rw [show w.heap.size + 2 = ((w.heap.push (Obj.cells #[.func (.func lf) first cap] 47)).push (Obj.cells #[.int .u32 0] 86)).size by simp, Array.getElem?_push_size]
  obtain ⟨u0, hu0⟩ : ∃ u0, u0 = ((v.alloc (.cells #[.func (.func lf) first cap] 47)).alloc (.cells #[.int .u32 0] 86)).alloc (wgBlock 93 0 0) := ⟨_, rfl⟩
  have hcp0 : Cp S u0 w3 := by
    rw [hu0, hw3]
    exact ((hcp.push rfl).push rfl).push rfl
  have n1 : ¬ S (v.heap.size + 1) := fun x => by have := hS _ x; omega
  have hcp1 := hcp0.shun n1 hno
  have n2 : ¬ (S (v.heap.size + 2) ∨ v.heap.size + 2 = v.heap.size + 1) := fun x => by
    rcases x with x | x
    · have := hS _ x; omega
    · omega
  have hcp2 := hcp1.shun n2 hwg
  obtain ⟨u, hu⟩ : ∃ u, Cp (SJ S v.heap.size 0) u w3 ∧ Vj v (.func (.func lf) first cap) 47 0 u := by
    refine ⟨_, hcp2.same_set fun b => ⟨fun h => .inl ?_, fun h => ?_⟩, ?_⟩
    · rcases h with (h | h) | h
      · exact .inl h
      · exact .inr (.inl h)
      · exact .inr (.inr h)
    · rcases h with (h | h | h) | ⟨i, hi, _⟩
      · exact .inl (.inl h)
      · exact .inl (.inr h)
      · exact .inr h
      · exact absurd hi (Nat.not_lt_zero _)
    · have e : u0.heap = ((v.heap.push (.cells #[.func (.func lf) first cap] 47)).push (.cells #[.int .u32 0] 86)).push (wgBlock 93 0 0) := by rw [hu0]; rfl
      refine ⟨by simp [e], fun b hb => ?_, ?_, by rw [hu0]; rfl, by rw [hu0]; rfl⟩
      · show ((u0.heap.setIfInBounds _ _).setIfInBounds _ _)[b]? = _
        rw [Array.getElem?_setIfInBounds_ne (by omega), Array.getElem?_setIfInBounds_ne (by omega), e, get_push (by simp; omega), get_push (by simp; omega), get_push hb]
      · show ((u0.heap.setIfInBounds _ _).setIfInBounds _ _)[v.heap.size]? = _
        rw [Array.getElem?_setIfInBounds_ne (by omega), Array.getElem?_setIfInBounds_ne (by omega), e, get_push (by simp; omega), get_push (by simp), Array.getElem?_push_size]
  obtain ⟨T0, h5⟩ := Here.begin (bit := bitW yes) h4 hn hno hwg hu.1 0 (by omega)
  refine (loop_in hcnt hS hkn hlook cnt 0 a4 u 0 m4 t4 (by omega) hu.2 h5 (fun w₁ _ => hs4 w₁)).trans fun m6 t6 ⟨a6, u6, vm6, hu6, h6, hs6⟩ => ?_
  -- Wait
  have hb : ∀ Ad', 0 + bitsIn (bitW yes) cnt Ad' < 4294967296 := fun Ad' => bits_ok hcnt Ad'
  have hsum : 0 + sumTo cnt (bitW yes) < 4294967296 := by
    have h2 := sumBit_lt yes cnt
    have h3 : 2 ^ cnt ≤ 2 ^ 31 := Nat.pow_le_pow_right (by omega) hcnt
    omega
  have hg : ∃ k w1, Goes Try.prog true (RS 93 (v.heap.size + 2)) DC0 (AtWord Try.prog 93 (v.heap.size + 2) .disable (AnchP v.heap.size (fun N g _ => g = G (b₁.at (a₁.put ((ops₁[i₁]?).bind (·.dst)) (.int .u32 N)) (.inRegion ops₁ rest₁ :: k₁)) cs₁) (b₁.at a₁ (.inRegion ops₁ (i₁ :: rest₁) :: k₁) :: cs₁))) k a6 w1 := by
    obtain ⟨gs, w, sl, D, Ad, q, st, sm, _, _, hc, _⟩ := h6
    obtain ⟨k, hk⟩ := leaveP ⟨_, _, hc.wg⟩ (hs6 w ⟨_, _, hc.wg⟩)
    exact ⟨k, w, hk⟩
  obtain ⟨k, w1, hg⟩ := hg
  have hj5 : cnt + pend (.sp 0 5) < 2147483648 := by simp [pend]; omega
  refine (Here.goes (by simp) hj5 hb k a6 w1 m6 t6 hg h6).trans fun m7 t7 ⟨a7, hs7, h7⟩ => ?_
  refine (h7.word hs7 (.inl rfl) (by simp) hj5 hb).trans fun m8 t8 ⟨a8, hs8, h8⟩ => ?_
  refine (Here.wait (r := 0) waitP (by omega) hb vm6 a8 m8 t8 h8 hs8).trans fun m9 t9 ⟨a9, vm9, hs9, h9⟩ => ?_
  refine (Here.join h9 hs9 (by omega) hb hsum hS).trans fun m10 t10 ⟨a10, v10, hs10, hl10, h10⟩ => ?_
  have hb0 : ∀ Ad', 0 + sumTo cnt (bitW yes) + bitsIn (bitW yes) 0 Ad' < 4294967296 := fun Ad' => by simpa [bitsIn, sumTo] using hsum
  have hg10 : ∃ k w1, Goes Try.prog true (RS 93 (v.heap.size + 2)) DC0 (AtRead Try.prog 93 86 v.heap.size (fun N g _ => g = G (b₁.at (a₁.put ((ops₁[i₁]?).bind (·.dst)) (.int .u32 N)) (.inRegion ops₁ rest₁ :: k₁)) cs₁)) k a10 w1 := by
    obtain ⟨gs, w, sl, D, Ad, q, st, sm, _, _, hc, _⟩ := h10
    obtain ⟨k, hk⟩ := hs10 w ⟨_, _, hc.wg⟩
    exact ⟨k, w, hk⟩
  obtain ⟨k10, w10, hg10⟩ := hg10
  refine (Here.goes (by simp) (by simp [pend]) hb0 k10 a10 w10 m10 t10 hg10 h10).trans fun m11 t11 ⟨a11, hs11, h11⟩ => ?_
  refine (h11.read hs11 hsum).trans fun m12 t12 ⟨a12, hs12, h12⟩ => ?_
  have ea : a12 = G (b₁.at (a₁.put ((ops₁[i₁]?).bind (·.dst)) (.int .u32 ((sumTo cnt (bitW yes) : Nat) : Int))) (.inRegion ops₁ rest₁ :: k₁)) cs₁ := by
    obtain ⟨gs, w, sl, D, Ad, q, st, sm, _, _, hc, _⟩ := h12
    have := hs12 w ⟨_, _, hc.wg⟩
    simpa using this
  refine .refl ⟨v10, ⟨?_, fun b hb => ?_, ?_, ?_⟩, ea ▸ h12.over hlo hfl⟩
  · rw [hl10.size, hu6.size]; omega
  · rw [hl10.out b (by omega)]; exact hu6.low b hb
  · exact hl10.os.trans hu6.os
  · exact hl10.output.trans hu6.output
end
end Go.Proofs.Ytdafpnpfcmgfcab
