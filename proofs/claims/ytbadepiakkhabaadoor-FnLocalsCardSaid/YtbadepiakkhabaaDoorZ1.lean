/- Joined texts: V60, G1, C1, M1, M3, H1. No conditions besides those that each states. -/
import Derived.StillTail
import Derived.WalkKit
import Derived.Lib.Hide
import Derived.Laws.BitsAllLaws
import Derived.Laws.BitsLemmas
import Derived.RowKit
/- A region whose order is open, walked once: a fact on each operation's value, kept by the others. No conditions. -/
namespace Go.Proofs.YtbadepiakkhabaaDoor
open Go
set_option linter.unusedVariables false

/-- The first n have come up, the others not. -/
def canonL (m n : Nat) : Array Bool := ((List.range m).map fun j => decide (j < n)).toArray
/-- Every operation waits for earlier ones alone. -/
def backB (ops : Array Oper) : Bool := (List.range ops.size).all fun i => match ops[i]? with
  | some o => o.after.all fun e => decide (e.on < i)
  | none => true
def factB (ops : Array Oper) (n : Nat) : Bool := decide (n < ops.size) && Region.sinkB .any ops n && Region.chainB .any ops n && backB ops && Region.seqB .any ops (ops.size - n) n (canonL ops.size n)
/-- How many of the first n have not come up. -/
def leftN (listed : Array Bool) : Nat → Nat
  | 0 => 0
  | n + 1 => leftN listed n + (if listed.getD n false then 0 else 1)
theorem leftN_zero {listed : Array Bool} : ∀ {n : Nat}, leftN listed n = 0 → ∀ j, j < n → listed.getD j false = true
  | 0, _, j, hj => by omega
  | n + 1, h, j, hj => by
    rw [leftN] at h
    by_cases e : j = n
    · subst e
      cases hl : listed.getD j false with
      | true => rfl
      | false => rw [hl] at h; simp at h
    · exact leftN_zero (n := n) (by omega) j (by omega)
theorem leftN_pos {listed : Array Bool} : ∀ {n : Nat}, 0 < leftN listed n → ∃ i, i < n ∧ listed.getD i false = false ∧ ∀ j, j < i → listed.getD j false = true
  | 0, h => by rw [leftN] at h; omega
  | n + 1, h => by
    rw [leftN] at h
    by_cases h0 : 0 < leftN listed n
    · obtain ⟨i, h1, h2, h3⟩ := leftN_pos h0
      exact ⟨i, by omega, h2, h3⟩
    · refine ⟨n, Nat.lt_succ_self n, ?_, leftN_zero (by omega)⟩
      cases hl : listed.getD n false with
      | false => rfl
      | true => rw [hl] at h; simp at h; omega
theorem leftN_keep {listed : Array Bool} {i : Nat} : ∀ {n : Nat}, n ≤ i → leftN (listed.setIfInBounds i true) n = leftN listed n
  | 0, _ => rfl
  | n + 1, h => by
    rw [leftN, leftN, leftN_keep (by omega), getD_set_ne false (by omega)]
theorem leftN_set {listed : Array Bool} {i : Nat} (hs : i < listed.size) (hu : listed.getD i false = false) : ∀ {n : Nat}, i < n → leftN (listed.setIfInBounds i true) n + 1 = leftN listed n
  | 0, h => by omega
  | n + 1, h => by
    rw [leftN, leftN]
    by_cases e : i = n
    · subst e
      rw [leftN_keep (Nat.le_refl _), hu]
      have : (listed.setIfInBounds i true).getD i false = true := by simp [hs]
      rw [this]; simp
    · rw [getD_set_ne false e]
      have := leftN_set hs hu (n := n) (by omega)
      omega
theorem canon_eq {listed : Array Bool} {m n : Nat} (hs : listed.size = m) (h1 : ∀ j, j < n → listed.getD j false = true) (h2 : ∀ t, n ≤ t → t < m → listed.getD t true = false) : listed = canonL m n := by
  apply Array.ext
  · unfold canonL; simp [hs]
  · intro j hj1 hj2
    have e : (canonL m n)[j] = decide (j < n) := by simp only [canonL, List.getElem_toArray, List.getElem_map, List.getElem_range]
    rw [e]
    by_cases hj : j < n
    · have := h1 j hj
      rw [decide_eq_true hj]
      simpa [hj1] using this
    · have := h2 j (by omega) (by omega)
      rw [decide_eq_false hj]
      simpa [hj1] using this
section
variable {P : Program} {Q : Exit → Act → World → Prop} {l : List Oper}
theorem wpAny_inv (n : Nat) (hB : factB l.toArray n = true) (G : Array Bool → Act → World → Prop)
    (hstep : ∀ (i : Nat) (listed : Array Bool) (a : Act) (w : World), i < n → HeadInv .any l.toArray n listed → i ∈ Region.ready .any l.toArray listed → G listed a w → wpOp P l.toArray Q i (fun a' w' => G (listed.setIfInBounds i true) a' w') a w)
    (hend : ∀ (listed : Array Bool) (a : Act) (w : World), (∀ j, j < n → listed.getD j false = true) → G listed a w → wpList P l.toArray Q (l.drop n) a w) :
    ∀ (f : Nat) (listed : Array Bool) (a : Act) (w : World), HeadInv .any l.toArray n listed → leftN listed n = f → G listed a w → wpAny P .any l.toArray Q (f + (l.toArray.size - n)) listed a w := by
  simp only [factB, Bool.and_eq_true, decide_eq_true_eq] at hB
  obtain ⟨⟨⟨⟨hn, hs⟩, hc⟩, hback⟩, hseq⟩ := hB
  have hdl : (l.drop n).length = l.toArray.size - n := by simp
  intro f
  induction f with
  | zero =>
    intro listed a w inv hl hG
    have hall := leftN_zero hl
    have e := canon_eq inv.size hall inv.tail
    have := wpAny_of_seq (md := .any) (P := P) (ops := l.toArray) (Q' := Q) (l.drop n) n listed a w (fun j => by simp [List.getElem?_drop]) (by rw [hdl, e]; exact hseq) (hend listed a w hall hG)
    rw [hdl] at this
    rw [Nat.zero_add]
    exact this
  | succ f ih =>
    intro listed a w inv hl hG
    obtain ⟨i0, hi0, hu0, hmin⟩ := leftN_pos (listed := listed) (n := n) (by omega)
    have hi0s : i0 < listed.size := by rw [inv.size]; omega
    have hu0' := getD_in hi0s hu0
    have hr0 : i0 ∈ Region.ready .any l.toArray listed := by
      obtain ⟨o0, ho0⟩ : ∃ o, l.toArray[i0]? = some o := ⟨_, Array.getElem?_eq_getElem (by omega)⟩
      refine mem_ready.2 ⟨hu0', o0, ho0, fun e he hb => hmin _ ?_⟩
      have h1 := List.all_eq_true.1 hback i0 (List.mem_range.2 (by omega))
      rw [ho0] at h1
      have h2 := Array.all_eq_true'.1 h1 e he
      simpa using h2
    rw [show f + 1 + (l.toArray.size - n) = (f + (l.toArray.size - n)) + 1 by omega]
    refine ⟨fun h => (by rw [h] at hr0; cases hr0), fun i hi => ?_⟩
    have hin : i < n := by
      rcases Nat.lt_or_ge i n with h | h
      · exact h
      · exact absurd hi (tail_waits hs hc hn inv _ i0 rfl hi0 hu0' i h)
    have hui := (mem_ready.1 hi).1
    refine wpOp_mono (fun a' w' h' => ih _ a' w' (inv.set hi hin) ?_ h') (hstep i listed a w hin inv hi hG)
    have := leftN_set (listed := listed) (i := i) (by rw [inv.size]; omega) (getD_both hui) (n := n) hin
    omega
theorem wp_region_inv {id : Nat} {a : Act} {w : World} (n : Nat) (hm : P.follows .mixedOrders = true) (hB : factB l.toArray n = true) (G : Array Bool → Act → World → Prop) (h0 : G (Array.replicate l.toArray.size false) a { w with drawn := w.drawn + 1 })
    (hstep : ∀ (i : Nat) (listed : Array Bool) (a : Act) (w : World), i < n → HeadInv .any l.toArray n listed → i ∈ Region.ready .any l.toArray listed → G listed a w → wpOp P l.toArray Q i (fun a' w' => G (listed.setIfInBounds i true) a' w') a w)
    (hend : ∀ (listed : Array Bool) (a : Act) (w : World), (∀ j, j < n → listed.getD j false = true) → G listed a w → wpList P l.toArray Q (l.drop n) a w) :
    (Code.region id l.toArray true).wp P Q a w := by
  have hB' := hB
  simp only [factB, Bool.and_eq_true, decide_eq_true_eq] at hB'
  have hn := hB'.1.1.1.1
  refine wp_region_any hm ?_
  have inv0 : HeadInv .any l.toArray n (Array.replicate l.toArray.size false) :=
    ⟨by simp, fun j oj _ hl => (by rw [getD_replicate_false] at hl; cases hl), fun t _ ht => getD_in (by simpa using ht) (getD_replicate_false _ _)⟩
  have hl0 : leftN (Array.replicate l.toArray.size false) n = n := by
    have : ∀ m, leftN (Array.replicate l.toArray.size false) m = m := by
      intro m
      induction m with
      | zero => rfl
      | succ m ih => rw [leftN, ih, getD_replicate_false]; simp
    exact this n
  have := wpAny_inv n hB G hstep hend n _ a _ inv0 hl0 h0
  rw [show n + (l.toArray.size - n) = l.toArray.size by omega] at this
  exact this
/-- One operation by a walk of its own. -/
theorem wpOp_of_list {ops : Array Oper} {i : Nat} {o : Oper} {K : Act → World → Prop} {a : Act} {w : World} (ho : ops[i]? = some o) (h : wpList P ops (Exit.then K Q) [o] a w) : wpOp P ops Q i K a w := by
  unfold wpOp
  simp only [ho]
  have h' := h
  unfold wpList at h'
  split
  · rename_i hw
    rw [if_pos hw] at h'
    rcases h' with h' | ⟨h1, h2⟩
    · refine .inl ?_
      unfold Oper.wp at h' ⊢
      generalize (execOp a.eval o).run P w = r at h' ⊢
      cases r with
      | ok x w' =>
        cases x <;> simp only [Oper.upon] at h' ⊢
        case value => exact h'
        case skip => exact h'
        case defer => exact h'
        case enter => exact Calls.mono h' (fun e w'' he => by cases e <;> exact he)
        case row => exact Rows.mono h' (fun _ _ he => he)
      | halt x w' => cases x <;> simp only [Oper.upon] at h' ⊢ <;> exact h'
    · exact .inr ⟨h1, h2⟩
  · rename_i hw
    rw [if_neg hw] at h'
    exact h'
/-- One more has come up. -/
def upL (L : Nat → Bool) (i : Nat) : Nat → Bool := fun k => if k = i then true else L k
/-- A region by facts: F says of each operation's value what it is, R what an operation does to the world, I what holds of the world all the while. L: which have come up. -/
theorem wp_region_facts {id : Nat} {a : Act} {w : World} (n : Nat) (hm : P.follows .mixedOrders = true) (hB : factB l.toArray n = true) (mk : (Nat → Value) → Act) (vs0 : Nat → Value) (ha : a = mk vs0)
    (I : (Nat → Bool) → World → Prop) (hI : I (fun _ => false) { w with drawn := w.drawn + 1 }) (R : Nat → World → World → Prop)
    (F : (Nat → Bool) → Nat → Value → World → Prop) (hF : ∀ L j i v w1 w2, j ≠ i → L i = false → I L w1 → R i w1 w2 → F L j v w1 → F (upL L i) j v w2)
    (hput : ∀ i, i < n → ∀ o, l.toArray[i]? = some o → ∀ vs v, (mk vs).put o.dst v = mk (fun j => if j = i then v else vs j))
    (hop : ∀ i, i < n → ∀ o, l.toArray[i]? = some o → ∀ L vs w1, L i = false → I L w1 → (∀ j, Region.waitsFor .any l.toArray i j = true → F L j (vs j) w1) → wpList P l.toArray (Exit.then (fun a' w' => ∃ v, a' = (mk vs).put o.dst v ∧ R i w1 w' ∧ I (upL L i) w' ∧ F (upL L i) i v w') Q) [o] (mk vs) w1)
    (hend : ∀ L vs w1, (∀ j, j < n → L j = true) → I L w1 → (∀ j, j < n → F L j (vs j) w1) → wpList P l.toArray Q (l.drop n) (mk vs) w1) :
    (Code.region id l.toArray true).wp P Q a w := by
  have hB' := hB
  simp only [factB, Bool.and_eq_true, decide_eq_true_eq] at hB'
  have hn := hB'.1.1.1.1
  have hback := hB'.1.2
  have hup : ∀ (listed : Array Bool) (i : Nat), i < listed.size → (fun j => (listed.setIfInBounds i true).getD j false) = upL (fun j => listed.getD j false) i := fun listed i hi => by
    funext j
    unfold upL
    by_cases e : j = i
    · subst e; rw [if_pos rfl]; simp [hi]
    · rw [if_neg e, getD_set_ne false (fun h => e h.symm)]
  refine wp_region_inv n hm hB (fun listed a w1 => ∃ vs, a = mk vs ∧ I (fun j => listed.getD j false) w1 ∧ ∀ j, j < n → listed.getD j false = true → F (fun j => listed.getD j false) j (vs j) w1) ⟨vs0, ha, (by rw [show (fun j => (Array.replicate l.toArray.size false).getD j false) = fun _ => false from funext fun j => getD_replicate_false _ j]; exact hI), fun j _ h => by rw [getD_replicate_false] at h; cases h⟩ ?_ ?_
  · rintro i listed a1 w1 hi inv hr ⟨vs, rfl, hI1, hf⟩
    obtain ⟨hun, o, ho, hall⟩ := mem_ready.1 hr
    have his : i < listed.size := by rw [inv.size]; omega
    refine wpOp_mono ?_ (wpOp_of_list ho (hop i hi o ho (fun j => listed.getD j false) vs w1 (getD_both hun) hI1 fun j hw => ?_))
    · rintro a' w' ⟨v, rfl, hR', hI', hv⟩
      refine ⟨fun j => if j = i then v else vs j, hput i hi o ho vs v, (by rw [hup listed i his]; exact hI'), fun j hj hl => ?_⟩
      rw [hup listed i his]
      by_cases e : j = i
      · subst e; simpa using hv
      · rw [getD_set_ne false (fun h => e h.symm)] at hl
        simp only [if_neg e]
        exact hF _ j i _ w1 w' e (getD_both hun) hI1 hR' (hf j hj hl)
    · obtain ⟨o', ho', e, he, hb, hon⟩ := Region.waitsFor_spec hw
      obtain rfl : o' = o := Option.some.inj (ho'.symm.trans ho)
      have h1 := List.all_eq_true.1 hback i (List.mem_range.2 (by omega))
      rw [ho] at h1
      have h2 : e.on < i := by simpa using Array.all_eq_true'.1 h1 e he
      rw [← hon]
      exact hf _ (by omega) (hall e he hb)
  · rintro listed a1 w1 hall ⟨vs, rfl, hI1, hf⟩
    exact hend _ vs w1 hall hI1 fun j hj => hf j hj (hall j hj)
/-- The values of the first operations, put one after the other. -/
def putsA (a : Act) : List Oper → (Nat → Value) → Nat → Act
  | [], _, _ => a
  | o :: r, vs, k => putsA (a.put o.dst (vs k)) r vs (k + 1)
theorem put_same (a : Act) (d : Option Tmp) (u v : Value) : (a.put d u).put d v = a.put d v := by
  cases d with
  | none => rfl
  | some t => simp [Act.put]
theorem put_swap (a : Act) {d e : Option Tmp} (h : ∀ t, d = some t → e ≠ some t) (u v : Value) : (a.put d u).put e v = (a.put e v).put d u := by
  cases d with
  | none => cases e <;> rfl
  | some t =>
    cases e with
    | none => rfl
    | some s =>
      have hne : t ≠ s := fun e => h t rfl (by rw [e])
      simp only [Act.put]
      rw [Array.setIfInBounds_comm _ _ hne]
theorem putsA_put {d : Option Tmp} {v : Value} : ∀ (l : List Oper) (a : Act) (vs : Nat → Value) (k : Nat), (∀ o ∈ l, ∀ t, o.dst = some t → d ≠ some t) → (putsA a l vs k).put d v = putsA (a.put d v) l vs k
  | [], a, vs, k, _ => rfl
  | o :: r, a, vs, k, h => by
    rw [putsA, putsA, putsA_put r _ vs (k + 1) (fun x hx => h x (List.mem_cons_of_mem _ hx)), put_swap a (h o List.mem_cons_self)]
theorem putsA_congr : ∀ (l : List Oper) (a : Act) (vs us : Nat → Value) (k : Nat), (∀ j, k ≤ j → vs j = us j) → putsA a l vs k = putsA a l us k
  | [], _, _, _, _, _ => rfl
  | o :: r, a, vs, us, k, h => by
    rw [putsA, putsA, h k (Nat.le_refl _), putsA_congr r _ vs us (k + 1) (fun j hj => h j (by omega))]
/-- No two operations write one slot. -/
def slotsB : List Oper → Bool
  | [] => true
  | o :: r => (match o.dst with | some t => r.all (fun x => x.dst != some t) | none => true) && slotsB r
theorem slotsB_spec {o : Oper} {r : List Oper} (h : slotsB (o :: r) = true) : (∀ x ∈ r, ∀ t, x.dst = some t → o.dst ≠ some t) ∧ slotsB r = true := by
  rw [slotsB, Bool.and_eq_true] at h
  refine ⟨fun x hx t ht e => ?_, h.2⟩
  have h1 := h.1
  rw [e] at h1
  have h2 := List.all_eq_true.1 h1 x hx
  rw [ht] at h2
  simp at h2
theorem putsA_set : ∀ (l : List Oper) (a : Act) (vs : Nat → Value) (k i : Nat) (o : Oper) (v : Value), slotsB l = true → l[i]? = some o → (putsA a l vs k).put o.dst v = putsA a l (fun j => if j = k + i then v else vs j) k
  | [], _, _, _, _, _, _, _, h => by simp at h
  | x :: r, a, vs, k, 0, o, v, hs, h => by
    obtain rfl : x = o := by simpa using h
    obtain ⟨h1, h2⟩ := slotsB_spec hs
    rw [putsA, putsA, putsA_put r _ vs (k + 1) h1, put_same]
    have e : (if k = k + 0 then v else vs k) = v := if_pos rfl
    rw [e]
    exact putsA_congr r _ _ _ _ (fun j hj => by rw [if_neg (by omega)])
  | x :: r, a, vs, k, i + 1, o, v, hs, h => by
    obtain ⟨h1, h2⟩ := slotsB_spec hs
    rw [putsA, putsA, putsA_set r _ vs (k + 1) i o v h2 (by simpa using h)]
    have e : (if k = k + (i + 1) then v else vs k) = vs k := if_neg (by omega)
    rw [e]
    exact putsA_congr r _ _ _ _ (fun j hj => by rw [show k + 1 + i = k + (i + 1) by omega])
/-- The values that stand there. -/
def hadA (a : Act) (l : List Oper) (k : Nat) : Value := match l[k]? with
  | some o => (match o.dst with | some t => a.tmps.getD t undef | none => undef)
  | none => undef
theorem put_had (a : Act) (d : Option Tmp) : a.put d (match d with | some t => a.tmps.getD t undef | none => undef) = a := by
  cases d with
  | none => rfl
  | some t =>
    simp only [Act.put]
    have e : a.tmps.setIfInBounds t (a.tmps.getD t undef) = a.tmps := by
      apply Array.ext_getElem?
      intro j
      rw [Array.getElem?_setIfInBounds]
      by_cases h : t = j
      · subst h
        rw [if_pos rfl]
        by_cases hs : t < a.tmps.size
        · simp [hs]
        · simp [hs]
      · rw [if_neg h]
    rw [e]
theorem putsA_had : ∀ (l : List Oper) (a : Act) (vs : Nat → Value) (k : Nat), (∀ j o, l[j]? = some o → vs (k + j) = (match o.dst with | some t => a.tmps.getD t undef | none => undef)) → putsA a l vs k = a
  | [], _, _, _, _ => rfl
  | o :: r, a, vs, k, h => by
    have h0 := h 0 o rfl
    rw [Nat.add_zero] at h0
    rw [putsA, h0, put_had]
    exact putsA_had r a vs (k + 1) (fun j x hx => by rw [show k + 1 + j = k + (j + 1) by omega]; exact h (j + 1) x (by simpa using hx))
theorem putsA_oth : ∀ (l : List Oper) (a : Act) (vs : Nat → Value) (k t : Nat), (l.all fun o => o.dst != some t) = true → (putsA a l vs k).tmps[t]? = a.tmps[t]?
  | [], _, _, _, _, _ => rfl
  | o :: r, a, vs, k, t, h => by
    rw [List.all_cons, Bool.and_eq_true] at h
    rw [putsA, putsA_oth r _ vs (k + 1) t h.2]
    have h1 := h.1
    cases hd : o.dst with
    | none => rfl
    | some s =>
      rw [hd] at h1
      have hne : s ≠ t := by simpa using h1
      simp only [Act.put]
      rw [Array.getElem?_setIfInBounds, if_neg hne]
theorem putsA_at : ∀ (l : List Oper) (a : Act) (vs : Nat → Value) (k i t : Nat) (o : Oper), slotsB l = true → l[i]? = some o → o.dst = some t → t < a.tmps.size → (putsA a l vs k).tmps[t]? = some (vs (k + i))
  | [], _, _, _, _, _, _, _, h, _, _ => by simp at h
  | x :: r, a, vs, k, 0, t, o, hs, h, hd, ht => by
    obtain rfl : x = o := by simpa using h
    obtain ⟨h1, h2⟩ := slotsB_spec hs
    rw [putsA, putsA_oth r _ vs (k + 1) t (List.all_eq_true.2 fun y hy => by
      have h3 := h1 y hy
      cases hy2 : y.dst with
      | none => rfl
      | some s =>
        have := h3 s hy2
        rw [hd] at this
        simp only [bne_iff_ne, ne_eq]
        exact fun e => this (by rw [e])), hd]
    simp only [Act.put]
    rw [Array.getElem?_setIfInBounds, if_pos rfl, if_pos ht, Nat.add_zero]
  | x :: r, a, vs, k, i + 1, t, o, hs, h, hd, ht => by
    obtain ⟨h1, h2⟩ := slotsB_spec hs
    rw [putsA, putsA_at r _ vs (k + 1) i t o h2 (by simpa using h) hd (by cases x.dst <;> simpa [Act.put] using ht), show k + 1 + i = k + (i + 1) by omega]
/-- What stands in the slots of a frame: the operations' values, elsewhere what stood there. -/
def EvA (a : Act) (l : List Oper) (vs : Nat → Value) (A : Act) : Prop := (∀ i o t, l[i]? = some o → o.dst = some t → A.tmps[t]?.getD undef = vs i) ∧ ∀ t, (l.all fun o => o.dst != some t) = true → A.tmps[t]?.getD undef = a.tmps[t]?.getD undef
/-- What is asked of each operation. -/
@[reducible] def hopsA (P : Program) (ops : Array Oper) (Q : Exit → Act → World → Prop) (I : (Nat → Bool) → World → Prop) (R : Nat → World → World → Prop) (F : (Nat → Bool) → Nat → Value → World → Prop) (E : (Nat → Value) → Act → Prop) : List Oper → Nat → Prop
  | [], _ => True
  | o :: r, i => (∀ L vs A w1, E vs A → L i = false → I L w1 → (∀ j, Region.waitsFor .any ops i j = true → F L j (vs j) w1) → wpList P ops (Exit.then (fun a' w' => ∃ v, a' = A.put o.dst v ∧ R i w1 w' ∧ I (upL L i) w' ∧ F (upL L i) i v w') Q) [o] A w1) ∧ hopsA P ops Q I R F E r (i + 1)
theorem hopsA_at {P : Program} {ops : Array Oper} {Q : Exit → Act → World → Prop} {I : (Nat → Bool) → World → Prop} {R : Nat → World → World → Prop} {F : (Nat → Bool) → Nat → Value → World → Prop} {E : (Nat → Value) → Act → Prop} : ∀ (r : List Oper) (k i : Nat) (o : Oper), hopsA P ops Q I R F E r k → r[i]? = some o →
    ∀ L vs A w1, E vs A → L (k + i) = false → I L w1 → (∀ j, Region.waitsFor .any ops (k + i) j = true → F L j (vs j) w1) → wpList P ops (Exit.then (fun a' w' => ∃ v, a' = A.put o.dst v ∧ R (k + i) w1 w' ∧ I (upL L (k + i)) w' ∧ F (upL L (k + i)) (k + i) v w') Q) [o] A w1
  | [], _, _, _, _, h => by simp at h
  | x :: r, k, 0, o, hh, h => by
    obtain rfl : x = o := by simpa using h
    exact hh.1
  | x :: r, k, i + 1, o, hh, h => by
    have := hopsA_at r (k + 1) i o hh.2 (by simpa using h)
    rw [show k + 1 + i = k + (i + 1) by omega] at this
    exact this
/-- A region by facts, its frame by the slots that it writes (N: the size of the frame). -/
theorem wp_region_by {id : Nat} {a : Act} {w : World} (n N : Nat) (hm : P.follows .mixedOrders = true) (hB : factB l.toArray n = true) (hS : slotsB (l.take n) = true) (hN : a.tmps.size = N) (hT : ((l.take n).all fun o => match o.dst with | some t => decide (t < N) | none => true) = true)
    (I : (Nat → Bool) → World → Prop) (hI : I (fun _ => false) { w with drawn := w.drawn + 1 }) (R : Nat → World → World → Prop)
    (F : (Nat → Bool) → Nat → Value → World → Prop) (hF : ∀ L j i v w1 w2, j ≠ i → L i = false → I L w1 → R i w1 w2 → F L j v w1 → F (upL L i) j v w2)
    (hop : hopsA P l.toArray Q I R F (EvA a (l.take n)) (l.take n) 0)
    (hend : ∀ L vs w1, (∀ j, j < n → L j = true) → I L w1 → (∀ j, j < n → F L j (vs j) w1) → wpList P l.toArray Q (l.drop n) (putsA a (l.take n) vs 0) w1) :
    (Code.region id l.toArray true).wp P Q a w := by
  have htk : ∀ i, i < n → ∀ o, l.toArray[i]? = some o → (l.take n)[i]? = some o := fun i hi o ho => by
    rw [List.getElem?_take, if_pos hi]; simpa using ho
  have hev : ∀ vs, EvA a (l.take n) vs (putsA a (l.take n) vs 0) := fun vs => ⟨fun i o t ho hd => by
    have h1 := List.all_eq_true.1 hT o (List.mem_of_getElem? ho)
    rw [hd] at h1
    rw [putsA_at (l.take n) a vs 0 i t o hS ho hd (by rw [hN]; simpa using h1), Nat.zero_add]; rfl, fun t ht => by rw [putsA_oth (l.take n) a vs 0 t ht]⟩
  refine wp_region_facts n hm hB (fun vs => putsA a (l.take n) vs 0) (hadA a (l.take n)) (putsA_had _ _ _ _ (fun j o ho => by rw [Nat.zero_add]; unfold hadA; rw [ho])).symm I hI R F hF (fun i hi o ho vs v => ?_) (fun i hi o ho L vs w1 hL hI1 hd => ?_) hend
  · have := putsA_set (l.take n) a vs 0 i o v hS (htk i hi o ho)
    rw [Nat.zero_add] at this
    exact this
  · have := hopsA_at (l.take n) 0 i o hop (htk i hi o ho) L vs _ w1 (hev vs) (by rw [Nat.zero_add]; exact hL) hI1 (by rw [Nat.zero_add]; exact hd)
    rw [Nat.zero_add] at this
    exact this
end
end Go.Proofs.YtbadepiakkhabaaDoor
/- Expression trees: their numbers of nodes, depths, sizes, equality. Plain. No conditions. -/
namespace Go.Proofs.YtbadepiakkhabaaDoor.Ex
set_option linter.unusedVariables false

/-- A tree: kind, text, number, line, kids. -/
inductive T where
  | node (k : Int) (t : ByteArray) (n l : Int) (ks : List T) : T
def T.kind : T → Int | .node k _ _ _ _ => k
def T.text : T → ByteArray | .node _ t _ _ _ => t
def T.num : T → Int | .node _ _ n _ _ => n
def T.line : T → Int | .node _ _ _ l _ => l
def T.kids : T → List T | .node _ _ _ _ ks => ks
mutual
/-- The number of nodes. -/
def T.count : T → Nat
  | .node _ _ _ _ ks => 1 + counts ks
def counts : List T → Nat
  | [] => 0
  | x :: r => x.count + counts r
end
mutual
/-- The depth. -/
def T.deep : T → Nat
  | .node _ _ _ _ ks => deeps ks + 1
def deeps : List T → Nat
  | [] => 0
  | x :: r => max x.deep (deeps r)
end
mutual
/-- The bytes and kids of a tree: what the laws bound. -/
def T.bulk : T → Nat
  | .node _ t _ _ ks => t.size + (ks.length + bulks ks)
def bulks : List T → Nat
  | [] => 0
  | x :: r => x.bulk + bulks r
end
theorem count_pos (x : T) : 1 ≤ x.count := by cases x; simp [T.count]
theorem counts_mem : ∀ {l : List T} {x : T}, x ∈ l → x.count ≤ counts l := by
  intro l
  induction l with
  | nil => intro x h; cases h
  | cons y l ih =>
    intro x h
    rw [counts]
    rcases List.mem_cons.1 h with rfl | h
    · omega
    · have := ih h; omega
theorem bulks_mem : ∀ {l : List T} {x : T}, x ∈ l → x.bulk ≤ bulks l := by
  intro l
  induction l with
  | nil => intro x h; cases h
  | cons y l ih =>
    intro x h
    rw [bulks]
    rcases List.mem_cons.1 h with rfl | h
    · omega
    · have := ih h; omega
theorem counts_snoc (l : List T) (x : T) : counts (l ++ [x]) = counts l + x.count := by
  induction l with
  | nil => simp [counts]
  | cons y l ih => rw [List.cons_append, counts, counts, ih]; omega
theorem deeps_snoc (l : List T) (x : T) : deeps (l ++ [x]) = max (deeps l) x.deep := by
  induction l with
  | nil => simp [deeps]
  | cons y l ih => rw [List.cons_append, deeps, deeps, ih]; omega
theorem bulks_snoc (l : List T) (x : T) : bulks (l ++ [x]) = bulks l + x.bulk := by
  induction l with
  | nil => simp [bulks]
  | cons y l ih => rw [List.cons_append, bulks, bulks, ih]; omega
theorem counts_take (l : List T) (k : Nat) (h : k < l.length) : counts (l.take (k + 1)) = counts (l.take k) + l[k].count := by
  rw [List.take_succ_eq_append_getElem h, counts_snoc]
theorem deeps_take (l : List T) (k : Nat) (h : k < l.length) : deeps (l.take (k + 1)) = max (deeps (l.take k)) l[k].deep := by
  rw [List.take_succ_eq_append_getElem h, deeps_snoc]
theorem bulks_take (l : List T) (k : Nat) (h : k < l.length) : bulks (l.take (k + 1)) = bulks (l.take k) + l[k].bulk := by
  rw [List.take_succ_eq_append_getElem h, bulks_snoc]
theorem counts_take_le (l : List T) (k : Nat) : counts (l.take k) ≤ counts l := by
  induction l generalizing k with
  | nil => simp [counts]
  | cons y l ih =>
    cases k with
    | zero => simp [counts]
    | succ k => rw [List.take_succ_cons, counts, counts]; have := ih k; omega
theorem bulks_take_le (l : List T) (k : Nat) : bulks (l.take k) ≤ bulks l := by
  induction l generalizing k with
  | nil => simp [bulks]
  | cons y l ih =>
    cases k with
    | zero => simp [bulks]
    | succ k => rw [List.take_succ_cons, bulks, bulks]; have := ih k; omega
/-- Fewer nodes than bytes and kids. -/
theorem count_bulk : ∀ (n : Nat) (x : T), x.count ≤ n → x.count ≤ x.bulk + 1 := by
  intro n
  induction n with
  | zero => intro x h; have := count_pos x; omega
  | succ n ih =>
    intro x h
    cases x with
    | node k t m l ks =>
      rw [T.count] at h ⊢
      rw [T.bulk]
      have : ∀ l : List T, counts l ≤ n → counts l ≤ l.length + bulks l := by
        intro l
        induction l with
        | nil => intro _; simp [counts]
        | cons y l ih2 =>
          intro h2
          rw [counts] at h2 ⊢
          rw [bulks, List.length_cons]
          have := ih y (by omega)
          have := ih2 (by omega)
          omega
      have := this ks (by omega)
      omega
theorem deep_count : ∀ (n : Nat) (x : T), x.count ≤ n → x.deep ≤ x.count := by
  intro n
  induction n with
  | zero => intro x h; have := count_pos x; omega
  | succ n ih =>
    intro x h
    cases x with
    | node k t m l ks =>
      rw [T.count] at h ⊢
      rw [T.deep]
      have : ∀ l : List T, counts l ≤ n → deeps l ≤ counts l := by
        intro l
        induction l with
        | nil => intro _; simp [counts, deeps]
        | cons y l ih2 =>
          intro h2
          rw [counts] at h2 ⊢
          rw [deeps]
          have := ih y (by omega)
          have := ih2 (by omega)
          omega
      have := this ks (by omega)
      omega
end Go.Proofs.YtbadepiakkhabaaDoor.Ex
/- Plain facts on sets that are kept in two words of 64 bits: their bits, their elements, and how many there are. No conditions. -/
namespace Go.Proofs.YtbadepiakkhabaaDoor.Cs
open Go.RowKit
set_option linter.unusedVariables false

/-- A word's bit. -/
def bitAt (n : Int) (k : Nat) : Bool := (BitVec.ofInt 64 n).getLsbD k
/-- A word that is in range. -/
def Fits (n : Int) : Prop := -9223372036854775808 ≤ n ∧ n ≤ 9223372036854775807
/-- The word with one bit. -/
def unit (k : Nat) : Int := wrap64 (2 ^ k)

theorem wrap_fits (n : Int) : Fits (IntKind.i64.wrap n) := by rw [IntKind.wrap_i64]; unfold Fits; omega
theorem bits_fits (op : BinOp) (a b : Int) : Fits (bits op .i64 a b) := wrap_fits _

theorem ofInt_wrap (n : Int) : BitVec.ofInt 64 (IntKind.i64.wrap n) = BitVec.ofInt 64 n := by
  rw [IntKind.wrap_i64]
  apply BitVec.eq_of_toNat_eq
  rw [BitVec.toNat_ofInt, BitVec.toNat_ofInt]
  omega
theorem ofInt_toNat (v : BitVec 64) : BitVec.ofInt 64 (v.toNat : Int) = v := by
  rw [BitVec.ofInt_natCast]; simp
theorem bit_word (v : BitVec 64) (k : Nat) : bitAt (IntKind.i64.wrap (v.toNat : Int)) k = v.getLsbD k := by
  unfold bitAt; rw [ofInt_wrap, ofInt_toNat]
theorem bit_and (a b : Int) (k : Nat) : bitAt (bits .and .i64 a b) k = (bitAt a k && bitAt b k) := by
  show bitAt (IntKind.i64.wrap ((BitVec.ofInt 64 a &&& BitVec.ofInt 64 b).toNat : Int)) k = _
  rw [bit_word, BitVec.getLsbD_and]; rfl
theorem bit_or (a b : Int) (k : Nat) : bitAt (bits .or .i64 a b) k = (bitAt a k || bitAt b k) := by
  show bitAt (IntKind.i64.wrap ((BitVec.ofInt 64 a ||| BitVec.ofInt 64 b).toNat : Int)) k = _
  rw [bit_word, BitVec.getLsbD_or]; rfl
theorem fits_toInt {a : Int} (h : Fits a) : (BitVec.ofInt 64 a).toInt = a := by
  unfold Fits at h
  rw [BitVec.toInt_ofInt]
  show Int.bmod a 18446744073709551616 = a
  rw [Int.bmod_def]
  split <;> omega
theorem word_ext {a b : Int} (ha : Fits a) (hb : Fits b) (h : ∀ k, k < 64 → bitAt a k = bitAt b k) : a = b := by
  rw [← fits_toInt ha, ← fits_toInt hb]
  congr 1
  exact BitVec.eq_of_getLsbD_eq fun k hk => h k hk

theorem bit_unit (k j : Nat) (hj : j < 64) : bitAt (unit k) j = decide (j = k) := by
  unfold bitAt unit
  have e : wrap64 (2 ^ k) = IntKind.i64.wrap (((2 ^ k : Nat)) : Int) := by rw [IntKind.wrap_i64]; unfold wrap64; simp
  rw [e, ofInt_wrap, BitVec.ofInt_natCast, BitVec.getLsbD_ofNat]
  simp [hj, Nat.testBit_two_pow, eq_comm]
theorem bit_zero (k : Nat) : bitAt 0 k = false := by
  unfold bitAt
  have : BitVec.ofInt 64 0 = 0#64 := by decide
  rw [this]; simp
theorem or_zero {a : Int} (h : Fits a) : bits .or .i64 a 0 = a :=
  word_ext (bits_fits _ _ _) h fun k _ => by rw [bit_or, bit_zero]; simp
theorem and_zero (a : Int) : bits .and .i64 a 0 = 0 :=
  word_ext (bits_fits _ _ _) (by unfold Fits; omega) fun k _ => by rw [bit_and, bit_zero]; simp
theorem test_bit (a : Int) (k : Nat) (hk : k < 64) : (bits .and .i64 a (unit k) != 0) = bitAt a k := by
  cases hb : bitAt a k
  · have : bits .and .i64 a (unit k) = 0 := word_ext (bits_fits _ _ _) (by unfold Fits; omega) fun j hj => by
      rw [bit_and, bit_zero, bit_unit k j hj]
      by_cases e : j = k
      · subst e; simp [hb]
      · simp [e]
    rw [this]; rfl
  · have : bits .and .i64 a (unit k) ≠ 0 := fun e => by
      have h1 := bit_and a (unit k) k
      rw [e, bit_zero, hb, bit_unit k k hk] at h1
      simp at h1
    simpa using this

/-- Is x an element of the set? -/
def mem (l h : Int) (x : Nat) : Bool := if x < 64 then bitAt l x else if x < 128 then bitAt h (x - 64) else false
theorem mem_low {l h : Int} {x : Nat} (hx : x < 64) : mem l h x = bitAt l x := if_pos hx
theorem mem_high {l h : Int} {x : Nat} (h1 : 64 ≤ x) (h2 : x < 128) : mem l h x = bitAt h (x - 64) := by unfold mem; rw [if_neg (by omega), if_pos h2]
theorem mem_out {l h : Int} {x : Nat} (h1 : 128 ≤ x) : mem l h x = false := by unfold mem; rw [if_neg (by omega), if_neg (by omega)]
/-- The elements in ascending order. -/
def text (l h : Int) : List Nat := (List.range 128).filter (mem l h)
/-- The elements below n. -/
def textTo (l h : Int) (n : Nat) : List Nat := (List.range n).filter (mem l h)
theorem textTo_succ (l h : Int) (n : Nat) : textTo l h (n + 1) = textTo l h n ++ if mem l h n then [n] else [] := by
  unfold textTo
  rw [List.range_succ, List.filter_append]
  congr 1
  cases hm : mem l h n <;> simp [hm]
theorem textTo_len (l h : Int) (n : Nat) : (textTo l h n).length ≤ n := by
  have := List.length_filter_le (mem l h) (List.range n)
  simpa [textTo] using this
/-- One element more. -/
def addL (l : Int) (x : Nat) : Int := if x < 64 then bits .or .i64 l (unit x) else l
def addH (h : Int) (x : Nat) : Int := if x < 64 then h else bits .or .i64 h (unit (x - 64))
theorem addL_fits {l : Int} (f : Fits l) (x : Nat) : Fits (addL l x) := by unfold addL; split; exact bits_fits _ _ _; exact f
theorem addH_fits {h : Int} (f : Fits h) (x : Nat) : Fits (addH h x) := by unfold addH; split; exact f; exact bits_fits _ _ _
/-- All elements of a list. -/
def allL (xs : List Nat) : Int := xs.foldl addL 0
def allH (xs : List Nat) : Int := xs.foldl addH 0
theorem all_snoc (xs : List Nat) (x : Nat) : allL (xs ++ [x]) = addL (allL xs) x ∧ allH (xs ++ [x]) = addH (allH xs) x := by
  unfold allL allH; simp
theorem fits_zero : Fits 0 := by unfold Fits; omega
theorem foldL_fits (xs : List Nat) : ∀ l, Fits l → Fits (xs.foldl addL l) := by
  induction xs with
  | nil => exact fun l h => h
  | cons x xs ih => exact fun l h => ih _ (addL_fits h x)
theorem foldH_fits (xs : List Nat) : ∀ l, Fits l → Fits (xs.foldl addH l) := by
  induction xs with
  | nil => exact fun l h => h
  | cons x xs ih => exact fun l h => ih _ (addH_fits h x)
theorem allL_fits (xs : List Nat) : Fits (allL xs) := foldL_fits xs 0 fits_zero
theorem allH_fits (xs : List Nat) : Fits (allH xs) := foldH_fits xs 0 fits_zero
end Go.Proofs.YtbadepiakkhabaaDoor.Cs
/- Plain facts on decimal digits, used by the proofs about FormatInt, ParseNumber and ParseInt. No conditions. -/
namespace Go.Proofs.YtbadepiakkhabaaDoor.Dec

/-- The last digit's letter. -/
def dg (n : Nat) : UInt8 := UInt8.ofNat (48 + n % 10)

/-- The digits of a number, none for zero. -/
def digs (n : Nat) : List UInt8 := if n = 0 then [] else digs (n / 10) ++ [dg n]
decreasing_by omega

/-- The digits of a number, one at least. -/
def fmtN (n : Nat) : List UInt8 := if n = 0 then [48] else digs n

end Go.Proofs.YtbadepiakkhabaaDoor.Dec
/- Plain facts on splitting a string at a byte. No conditions. -/
namespace Go.Proofs.YtbadepiakkhabaaDoor.Cut

/-- What is split off among the first k letters, and where the next part begins. -/
def to (s : ByteArray) (b : Int) : Nat → List ByteArray × Nat
  | 0 => ([], 0)
  | k + 1 => if h : k < s.size then (if (s[k].toNat : Int) = b then ((to s b k).1 ++ [s.extract (to s b k).2 k], k + 1) else to s b k) else to s b k

/-- All parts. -/
def all (s : ByteArray) (b : Int) : List ByteArray := (to s b s.size).1 ++ [s.extract (to s b s.size).2 s.size]

/-- What a loop over 0 .. size has gathered at its k-th round's head. -/
def At (s : ByteArray) (b : Int) (k : Nat) (l : List ByteArray) (f : Nat) : Prop :=
  (k ≤ s.size ∧ l = (to s b k).1 ∧ f = (to s b k).2) ∨ (k = s.size + 1 ∧ l = all s b)

end Go.Proofs.YtbadepiakkhabaaDoor.Cut
/- Core trees: their numbers of nodes, depths, sizes, equality. Plain. No conditions. -/
namespace Go.Proofs.YtbadepiakkhabaaDoor.Co
set_option linter.unusedVariables false

/-- A tree: kind, operator, number, line, text, kids. -/
inductive T where
  | node (k p n l : Int) (t : ByteArray) (ks : List T) : T
def T.kind : T → Int | .node k _ _ _ _ _ => k
def T.op : T → Int | .node _ p _ _ _ _ => p
def T.text : T → ByteArray | .node _ _ _ _ t _ => t
def T.num : T → Int | .node _ _ n _ _ _ => n
def T.line : T → Int | .node _ _ _ l _ _ => l
def T.kids : T → List T | .node _ _ _ _ _ ks => ks
mutual
/-- The number of nodes. -/
def T.count : T → Nat
  | .node _ _ _ _ _ ks => 1 + counts ks
def counts : List T → Nat
  | [] => 0
  | x :: r => x.count + counts r
end
mutual
/-- The depth. -/
def T.deep : T → Nat
  | .node _ _ _ _ _ ks => deeps ks + 1
def deeps : List T → Nat
  | [] => 0
  | x :: r => max x.deep (deeps r)
end
mutual
/-- The bytes and kids of a tree: what the laws bound. -/
def T.bulk : T → Nat
  | .node _ _ _ _ t ks => t.size + (ks.length + bulks ks)
def bulks : List T → Nat
  | [] => 0
  | x :: r => x.bulk + bulks r
end
theorem count_pos (x : T) : 1 ≤ x.count := by cases x; simp [T.count]
theorem counts_mem : ∀ {l : List T} {x : T}, x ∈ l → x.count ≤ counts l := by
  intro l
  induction l with
  | nil => intro x h; cases h
  | cons y l ih =>
    intro x h
    rw [counts]
    rcases List.mem_cons.1 h with rfl | h
    · omega
    · have := ih h; omega
theorem bulks_mem : ∀ {l : List T} {x : T}, x ∈ l → x.bulk ≤ bulks l := by
  intro l
  induction l with
  | nil => intro x h; cases h
  | cons y l ih =>
    intro x h
    rw [bulks]
    rcases List.mem_cons.1 h with rfl | h
    · omega
    · have := ih h; omega
theorem counts_snoc (l : List T) (x : T) : counts (l ++ [x]) = counts l + x.count := by
  induction l with
  | nil => simp [counts]
  | cons y l ih => rw [List.cons_append, counts, counts, ih]; omega
theorem deeps_snoc (l : List T) (x : T) : deeps (l ++ [x]) = max (deeps l) x.deep := by
  induction l with
  | nil => simp [deeps]
  | cons y l ih => rw [List.cons_append, deeps, deeps, ih]; omega
theorem bulks_snoc (l : List T) (x : T) : bulks (l ++ [x]) = bulks l + x.bulk := by
  induction l with
  | nil => simp [bulks]
  | cons y l ih => rw [List.cons_append, bulks, bulks, ih]; omega
theorem counts_take (l : List T) (k : Nat) (h : k < l.length) : counts (l.take (k + 1)) = counts (l.take k) + l[k].count := by
  rw [List.take_succ_eq_append_getElem h, counts_snoc]
theorem deeps_take (l : List T) (k : Nat) (h : k < l.length) : deeps (l.take (k + 1)) = max (deeps (l.take k)) l[k].deep := by
  rw [List.take_succ_eq_append_getElem h, deeps_snoc]
theorem bulks_take (l : List T) (k : Nat) (h : k < l.length) : bulks (l.take (k + 1)) = bulks (l.take k) + l[k].bulk := by
  rw [List.take_succ_eq_append_getElem h, bulks_snoc]
theorem counts_take_le (l : List T) (k : Nat) : counts (l.take k) ≤ counts l := by
  induction l generalizing k with
  | nil => simp [counts]
  | cons y l ih =>
    cases k with
    | zero => simp [counts]
    | succ k => rw [List.take_succ_cons, counts, counts]; have := ih k; omega
theorem bulks_take_le (l : List T) (k : Nat) : bulks (l.take k) ≤ bulks l := by
  induction l generalizing k with
  | nil => simp [bulks]
  | cons y l ih =>
    cases k with
    | zero => simp [bulks]
    | succ k => rw [List.take_succ_cons, bulks, bulks]; have := ih k; omega
/-- Fewer nodes than bytes and kids. -/
theorem count_bulk : ∀ (n : Nat) (x : T), x.count ≤ n → x.count ≤ x.bulk + 1 := by
  intro n
  induction n with
  | zero => intro x h; have := count_pos x; omega
  | succ n ih =>
    intro x h
    cases x with
    | node k p m l t ks =>
      rw [T.count] at h ⊢
      rw [T.bulk]
      have : ∀ l : List T, counts l ≤ n → counts l ≤ l.length + bulks l := by
        intro l
        induction l with
        | nil => intro _; simp [counts]
        | cons y l ih2 =>
          intro h2
          rw [counts] at h2 ⊢
          rw [bulks, List.length_cons]
          have := ih y (by omega)
          have := ih2 (by omega)
          omega
      have := this ks (by omega)
      omega
theorem deep_count : ∀ (n : Nat) (x : T), x.count ≤ n → x.deep ≤ x.count := by
  intro n
  induction n with
  | zero => intro x h; have := count_pos x; omega
  | succ n ih =>
    intro x h
    cases x with
    | node k p m l t ks =>
      rw [T.count] at h ⊢
      rw [T.deep]
      have : ∀ l : List T, counts l ≤ n → deeps l ≤ counts l := by
        intro l
        induction l with
        | nil => intro _; simp [counts, deeps]
        | cons y l ih2 =>
          intro h2
          rw [counts] at h2 ⊢
          rw [deeps]
          have := ih y (by omega)
          have := ih2 (by omega)
          omega
      have := this ks (by omega)
      omega
end Go.Proofs.YtbadepiakkhabaaDoor.Co
