/- Joined texts: U2, W13, N30. No conditions besides those that each states. -/
import Derived.OwnWalk
import Derived.Test.YtckjmmapekaapaaGreatDoorZ7
import Derived.Test.YtckjmmapekaapaaGreatDoorZ11
import Derived.Test.YtckjmmapekaapaaGreatDoorZ12
/- Filling a slice of structs that the call made; lists that are marked. No conditions. -/
namespace Go.Proofs.YtckjmmapekaapaaGreatDoor
open Go.RowKit
set_option linter.unusedVariables false

/-- Stores one after the other. -/
def putAll : World → Nat → Nat → List (D × Value × List Nat) → World
  | w, _, _, [] => w
  | w, g, o, e :: r => putAll (w.setCell ⟨g, o, none⟩ e.2.1) g (o + 1) r
def setAll {α : Type} : List α → Nat → List α → List α
  | l, _, [] => l
  | l, i, d :: r => setAll (l.set i d) (i + 1) r
theorem setAll_mid {α : Type} : ∀ (ds A M B : List α), M.length = ds.length → setAll (A ++ M ++ B) A.length ds = A ++ ds ++ B := by
  intro ds
  induction ds with
  | nil => intro A M B h; rw [setAll, List.length_eq_zero_iff.1 h]
  | cons d r ih =>
    intro A M B h
    cases M with
    | nil => simp at h
    | cons m M =>
      rw [setAll]
      have e : (A ++ m :: M ++ B).set A.length d = (A ++ [d]) ++ M ++ B := by
        rw [List.append_assoc, List.set_append_right _ _ (Nat.le_refl _), Nat.sub_self]
        simp
      rw [e]
      have h2 := ih (A ++ [d]) M B (by simpa using h)
      rw [List.length_append] at h2
      rw [show A.length + 1 = A.length + [d].length from rfl, h2]
      simp
theorem mem_setAll {b : Nat} : ∀ (Gs Fs : List (List Nat)) (i : Nat), b ∈ (setAll Fs i Gs).flatten → b ∈ Fs.flatten ∨ b ∈ Gs.flatten := by
  intro Gs
  induction Gs with
  | nil => intro Fs i h; exact .inl h
  | cons G r ih =>
    intro Fs i h
    rw [setAll] at h
    rcases ih _ _ h with h | h
    · rcases mem_set h with h | h
      · exact .inl h
      · exact .inr (by rw [List.flatten_cons]; exact List.mem_append_left _ h)
    · exact .inr (by rw [List.flatten_cons]; exact List.mem_append_right _ h)
theorem putAll_size : ∀ (es : List (D × Value × List Nat)) (w : World) (g o : Nat), (putAll w g o es).heap.size = w.heap.size := by
  intro es
  induction es with
  | nil => intro w g o; rfl
  | cons e r ih => intro w g o; rw [putAll, ih]; simp [World.setCell]
theorem putAll_keep {b g : Nat} (hb : b ≠ g) : ∀ (es : List (D × Value × List Nat)) (w : World) (o : Nat), (putAll w g o es).heap[b]? = w.heap[b]? := by
  intro es
  induction es with
  | nil => intro w o; rfl
  | cons e r ih => intro w o; rw [putAll, ih]; exact Below.heap_setCell w ⟨g, o, none⟩ _ b hb
theorem putAll_below {m g : Nat} {w : World} (hg : m ≤ g) : ∀ (es : List (D × Value × List Nat)) (w1 : World) (o : Nat), Below m w w1 → Below m w (putAll w1 g o es) := by
  intro es
  induction es with
  | nil => intro w1 o h; exact h
  | cons e r ih => intro w1 o h; rw [putAll]; exact ih _ _ (h.setCell (p := ⟨g, o, none⟩) hg _)
theorem RowD.puts {g o : Nat} : ∀ (es : List (D × Value × List Nat)) (w : World) (i : Nat) (l : List D) (Fs : List (List Nat)), RowD w g o l Fs → i + es.length ≤ l.length → (∀ e ∈ es, Own w e.1 e.2.1 e.2.2 ∧ g ∉ e.2.2 ∧ Apart Fs.flatten e.2.2) → es.Pairwise (fun x y => Apart x.2.2 y.2.2) → RowD (putAll w g (o + i) es) g o (setAll l i (es.map fun e => e.1)) (setAll Fs i (es.map fun e => e.2.2)) := by
  intro es
  induction es with
  | nil => intro w i l Fs h _ _ _; exact h
  | cons e r ih =>
    intro w i l Fs h hi he hp
    rw [List.length_cons] at hi
    rw [List.pairwise_cons] at hp
    obtain ⟨h1, h2, h3⟩ := he e List.mem_cons_self
    have hput := h.put (j := i) (by omega) h1 h2 fun k K _ hK b hb => h3 b (mem_at hK hb)
    refine ih _ (i + 1) _ _ hput (by rw [List.length_set]; omega) (fun x hx => ?_) hp.2
    obtain ⟨k1, k2, k3⟩ := he x (List.mem_cons_of_mem _ hx)
    refine ⟨Own.keep _ _ _ (fun b hb => Below.heap_setCell w ⟨g, o + i, none⟩ _ b (fun (e5 : b = g) => k2 (e5 ▸ hb))) k1, k2, fun b hb => ?_⟩
    rcases mem_set hb with hb | hb
    · exact k3 b hb
    · exact hp.1 x hx b hb
/-- A slice of structs that is filled, as far as it goes. -/
def FillD {α : Type} (f : α → List D) (zero : List D) (w : World) (g : Nat) (xs : List α) (k : Nat) (wr : World) : Prop := ∃ Fs, RowD wr g 0 ((xs.take k).flatMap f ++ (List.replicate (xs.length - k) ()).flatMap fun _ => zero) Fs ∧ (∀ b ∈ Fs.flatten, g < b ∧ b < wr.heap.size) ∧ g < wr.heap.size ∧ Below w.heap.size w wr
theorem FillD.start {α : Type} {f : α → List D} {zero : List D} {w w1 : World} {g z base : Nat} {T : TypeId} {xs : List α} {zc : Array Value} (hzl : zero.length = z) (hz0 : 0 < z) (hzc : zc.size = z) (hz : ∀ (j : Nat) (d : D), zero[j]? = some d → ∃ u : Value, zc[j]? = some u ∧ ∀ W, Own W d u []) (hown : w1.ownsRow base T z (.slice (some ⟨g, 0, none⟩) xs.length xs.length) xs.length (madeCells zc (xs.length * z)).toList) (hb : Below w.heap.size w w1) : FillD f zero w g xs 0 w1 := by
  have hlen : ((List.replicate xs.length ()).flatMap fun _ => zero).length = xs.length * z := by
    rw [flat_len (fun _ => zero) (fun _ => hzl), List.length_replicate]
  have hfl : (List.replicate (xs.length * z) ([] : List Nat)).flatten = [] := by simp
  rw [FillD, List.take_zero, List.flatMap_nil, List.nil_append, Nat.sub_zero]
  refine ⟨List.replicate (xs.length * z) [], ⟨⟨by rw [hfl]; exact List.not_mem_nil, pairwise_of fun i j F G _ hi hj b hb2 => ?_⟩, by rw [List.length_replicate, hlen], fun j d hj => ?_⟩, (fun b hb2 => by rw [hfl] at hb2; cases hb2), (World.ownsRow.lt hown g rfl).2, hb⟩
  · obtain ⟨_, rfl⟩ := List.mem_replicate.1 (List.mem_of_getElem? hi)
    cases hb2
  · have hjl : j < xs.length * z := by rw [← hlen]; exact (List.getElem?_eq_some_iff.1 hj).1
    have hjz : j % z < z := Nat.mod_lt _ hz0
    have hdiv : j / z < xs.length := Nat.div_lt_of_lt_mul (by rw [Nat.mul_comm]; exact hjl)
    have he : j = j / z * z + j % z := by rw [Nat.mul_comm]; exact (Nat.div_add_mod j z).symm
    have h1 := flat_at (fun _ : Unit => zero) (fun _ => hzl) (List.replicate xs.length ()) (j / z) (j % z) () (by rw [List.getElem?_replicate, if_pos hdiv]) hjz
    rw [← he, hj] at h1
    obtain ⟨u, hu, ho⟩ := hz (j % z) d h1.symm
    refine ⟨u, [], by rw [List.getElem?_replicate, if_pos hjl], ?_, World.ownsRow.frozenAt hown _, ho _⟩
    rw [Nat.zero_add, World.ownsRow.cellAt hown j hjl]
    have h2 : (madeCells zc (xs.length * z)).toList[j]? = some (zc[j % zc.size]!) := by
      unfold madeCells
      simp [hjl]
    rw [h2, hzc]
    obtain ⟨hlt, hv⟩ := Array.getElem?_eq_some_iff.1 hu
    rw [getElem!_pos zc (j % z) hlt, hv]
theorem FillD.next {α : Type} {f : α → List D} {zero : List D} {w wr w1 : World} {g k z : Nat} {xs : List α} (h : FillD f zero w g xs k wr) (hf : ∀ x, (f x).length = z) (hzl : zero.length = z) (hg : w.heap.size ≤ g) (hk : k < xs.length) (hb : Below wr.heap.size wr w1) (es : List (D × Value × List Nat)) (he : es.map (fun e => e.1) = f xs[k]) (ho : ∀ e ∈ es, Own w1 e.1 e.2.1 e.2.2 ∧ ∀ b ∈ e.2.2, wr.heap.size ≤ b ∧ b < w1.heap.size) (hp : es.Pairwise (fun x y => Apart x.2.2 y.2.2)) : FillD f zero w g xs (k + 1) (putAll w1 g (k * z) es) := by
  obtain ⟨Fs, hr, hF, hgl, hB⟩ := h
  have hel : es.length = z := by rw [← hf xs[k], ← he, List.length_map]
  have hr1 := hr.keep (hb.block g hgl) (fun b hb2 => hb.block b (hF b hb2).2)
  have htk : ((xs.take k).flatMap f).length = k * z := by rw [flat_len f hf, List.length_take, Nat.min_eq_left (by omega)]
  have hrep : List.replicate (xs.length - k) () = () :: List.replicate (xs.length - (k + 1)) () := by
    rw [show xs.length - k = (xs.length - (k + 1)) + 1 by omega, List.replicate_succ]
  have hps := RowD.puts es w1 (k * z) _ Fs hr1 (by rw [List.length_append, htk, hrep, List.flatMap_cons, List.length_append, hzl]; omega) (fun e he2 => ⟨(ho e he2).1, fun hb2 => by have := ((ho e he2).2 g hb2).1; omega, fun b hb1 hb2 => by have h1 := (hF b hb1).2; have h2 := ((ho e he2).2 b hb2).1; omega⟩) hp
  rw [Nat.zero_add] at hps
  refine ⟨setAll Fs (k * z) (es.map fun e => e.2.2), ?_, fun b hb2 => ?_, by rw [putAll_size]; have := hb.size; omega, putAll_below hg es w1 _ (hB.trans (hb.mono hB.size))⟩
  · have e : setAll ((xs.take k).flatMap f ++ (List.replicate (xs.length - k) ()).flatMap fun _ => zero) (k * z) (es.map fun e => e.1) = (xs.take (k + 1)).flatMap f ++ (List.replicate (xs.length - (k + 1)) ()).flatMap fun _ => zero := by
      rw [hrep, List.flatMap_cons, ← List.append_assoc, ← htk, setAll_mid _ _ _ _ (by rw [List.length_map, hel, hzl]), he, List.take_succ_eq_append_getElem hk, List.flatMap_append]
      simp
    rw [e] at hps
    exact hps
  · rw [putAll_size]
    have hs := hb.size
    rcases mem_setAll _ _ _ hb2 with hb2 | hb2
    · have := hF b hb2; omega
    · obtain ⟨K, hK, hb3⟩ := List.mem_flatten.1 hb2
      obtain ⟨e, he2, rfl⟩ := List.mem_map.1 hK
      have := (ho e he2).2 b hb3; omega
theorem FillD.cell {α : Type} {f : α → List D} {zero : List D} {w wr w1 : World} {g k z : Nat} {xs : List α} (h : FillD f zero w g xs k wr) (hf : ∀ x, (f x).length = z) (hzl : zero.length = z) (hk : k ≤ xs.length) (j : Nat) (hj : j < xs.length * z) (hb : Below wr.heap.size wr w1) : (∃ u, w1.cell? ⟨g, j, none⟩ = some u) ∧ w1.frozen? ⟨g, j, none⟩ = false := by
  obtain ⟨Fs, hr, hF, hgl, hB⟩ := h
  have hl : ((xs.take k).flatMap f ++ (List.replicate (xs.length - k) ()).flatMap fun _ => zero).length = xs.length * z := by
    rw [List.length_append, flat_len f hf, flat_len (fun _ => zero) (fun _ => hzl), List.length_take, List.length_replicate, Nat.min_eq_left hk, ← Nat.add_mul]
    congr 1; omega
  obtain ⟨u, G, _, hc, hfz, _⟩ := (hr.keep (hb.block g hgl) (fun b hb2 => hb.block b (hF b hb2).2)).2.2 j _ (List.getElem?_eq_getElem (by rw [hl]; exact hj))
  rw [Nat.zero_add] at hc hfz
  exact ⟨⟨u, hc⟩, hfz⟩
theorem FillD.done {α : Type} {f : α → List D} {zero : List D} {w wr : World} {g z : Nat} {xs : List α} (h : FillD f zero w g xs xs.length wr) (hf : ∀ x, (f x).length = z) (hz0 : 0 < z) (hg : w.heap.size ≤ g) {cp : Nat} (hcp : xs.length ≤ cp) : ∃ F, Own wr (.row xs.length (xs.flatMap f)) (.slice (some ⟨g, 0, none⟩) xs.length cp) F ∧ Foot w.heap.size wr F ∧ Below w.heap.size w wr := by
  obtain ⟨Fs, hr, hF, hgl, hB⟩ := h
  rw [List.take_length, Nat.sub_self, List.replicate_zero, List.flatMap_nil, List.append_nil] at hr
  by_cases h0 : xs.flatMap f = []
  · refine ⟨[], ?_, (fun b hb => by cases hb), hB⟩
    rw [h0]; exact own_nil
  · refine ⟨_, own_of_rowD hr h0 hcp, fun b hb => ?_, hB⟩
    rcases List.mem_cons.1 hb with rfl | hb
    · exact ⟨hg, hgl⟩
    · have := hF b hb; omega
/-- What makes data answers. -/
def RetD (w : World) (d : D) (e : Ending) (w' : World) : Prop := ∃ v F, e = .returned v ∧ Own w' d v F ∧ Foot w.heap.size w' F ∧ Below w.heap.size w w'

/-- Elements that are marked one after the other, each with so many letters. -/
def mks {α : Type} (f : α → Nat → α) (wd : α → Nat) : List α → Nat → List α
  | [], _ => []
  | x :: r, k => f x k :: mks f wd r (k + wd x)
def wsum {α : Type} (wd : α → Nat) : List α → Nat
  | [] => 0
  | x :: r => wd x + wsum wd r
theorem mks_len {α : Type} (f : α → Nat → α) (wd : α → Nat) : ∀ (l : List α) (k : Nat), (mks f wd l k).length = l.length := by
  intro l
  induction l with
  | nil => intro k; rfl
  | cons x r ih => intro k; rw [mks, List.length_cons, ih, List.length_cons]
theorem mks_snoc {α : Type} (f : α → Nat → α) (wd : α → Nat) : ∀ (l : List α) (x : α) (k : Nat), mks f wd (l ++ [x]) k = mks f wd l k ++ [f x (k + wsum wd l)] := by
  intro l
  induction l with
  | nil => intro x k; rfl
  | cons y r ih => intro x k; rw [List.cons_append, mks, ih, mks, wsum, List.cons_append, Nat.add_assoc]
theorem wsum_snoc {α : Type} (wd : α → Nat) : ∀ (l : List α) (x : α), wsum wd (l ++ [x]) = wsum wd l + wd x := by
  intro l
  induction l with
  | nil => intro x; simp [wsum]
  | cons y r ih => intro x; rw [List.cons_append, wsum, ih, wsum]; omega
theorem wsum_take {α : Type} (wd : α → Nat) (l : List α) (i : Nat) (hi : i < l.length) : wsum wd (l.take (i + 1)) = wsum wd (l.take i) + wd l[i] := by
  rw [List.take_succ_eq_append_getElem hi, wsum_snoc]
theorem wsum_app {α : Type} (wd : α → Nat) : ∀ (l m : List α), wsum wd (l ++ m) = wsum wd l + wsum wd m := by
  intro l
  induction l with
  | nil => intro m; simp [wsum]
  | cons y r ih => intro m; rw [List.cons_append, wsum, ih, wsum]; omega
theorem wsum_take_le {α : Type} (wd : α → Nat) (l : List α) (i : Nat) : wsum wd (l.take i) ≤ wsum wd l := by
  have h := wsum_app wd (l.take i) (l.drop i)
  rw [List.take_append_drop] at h
  omega
theorem mks_get {α : Type} (f : α → Nat → α) (wd : α → Nat) : ∀ (l : List α) (k i : Nat) (x : α), l[i]? = some x → (mks f wd l k)[i]? = some (f x (k + wsum wd (l.take i))) := by
  intro l
  induction l with
  | nil => intro k i x h; simp at h
  | cons y r ih =>
    intro k i x h
    rw [mks]
    match i with
    | 0 => obtain rfl : y = x := Option.some.inj h; simp [wsum]
    | i + 1 =>
      have h2 := ih (k + wd y) i x h
      rw [List.getElem?_cons_succ, h2, List.take_succ_cons, wsum, Nat.add_assoc]
end Go.Proofs.YtckjmmapekaapaaGreatDoor
/- The laws' copy of a list of strings. No conditions. -/
namespace Go.Proofs.YtckjmmapekaapaaGreatDoor
open Go.RowKit
set_option linter.unusedVariables false

/-- The first k strings, and empty ones for the rest. -/
def filled (l : List ByteArray) (k : Nat) : List ByteArray := l.take k ++ List.replicate (l.length - k) ByteArray.empty
theorem filled_length (l : List ByteArray) (k : Nat) (h : k ≤ l.length) : (filled l k).length = l.length := by
  simp [filled]; omega
theorem filled_zero (l : List ByteArray) : filled l 0 = List.replicate l.length ByteArray.empty := by simp [filled]
theorem filled_all (l : List ByteArray) : filled l l.length = l := by simp [filled]
theorem filled_set (l : List ByteArray) (k : Nat) (h : k < l.length) : (filled l k).set k (l.getD k ByteArray.empty) = filled l (k + 1) := by
  unfold filled
  have e1 : (l.take k).length = k := by rw [List.length_take]; omega
  rw [List.set_append_right _ _ (by omega), e1, Nat.sub_self, show l.length - k = (l.length - (k + 1)) + 1 by omega, List.replicate_succ, List.set_cons_zero, List.take_succ_eq_append_getElem h, List.append_assoc]
  simp [List.getD, List.getElem?_eq_getElem h]

theorem owns_made {w1 : World} {base : Nat} {v : Value} {n : Nat} (h : w1.ownsRow base 9 1 v n (List.replicate n (.string ByteArray.empty))) : Owns w1 base v (List.replicate n ByteArray.empty) := by
  unfold Owns; rw [List.length_replicate, List.map_replicate]; exact h

set_option maxHeartbeats 400000 in
theorem to_strs (v : Value) (l : List ByteArray) (w : World) (hr : Reads w v l) (hl : l.length ≤ 1048576) :
    Calls Tryz.prog 22 #[v] w fun e w' => ∃ v', e = .returned v' ∧ Owns w' w.heap.size v' l ∧ Below w.heap.size w w' := by
  obtain ⟨i0, hi, hz0, hz1, hz2⟩ := info_parts info_string
  obtain ⟨w0, hmk0, hown0, hgr0⟩ := run_make_full (P := Tryz.prog) w w.heap.size 23 9 i0 (.string ByteArray.empty) 1 Tryz.underlying23 hi hz0 hz1 .i64 .i64 l.length (by rw [hz2]; omega) (max_small (by omega)) (Nat.le_refl _)
  have HO0 := Lib.hid (owns_made (by rw [show (madeCells (Value.string ByteArray.empty).cells (l.length * 1)).toList = List.replicate (l.length * 1) (.string ByteArray.empty) from toList_madeCells_one _ _, Nat.mul_one] at hown0; exact hown0))
  have HB0 := Lib.hid (show Below w.heap.size w w0 from (Below.refl _ _).grown hgr0 (Nat.le_refl _) (fun k hk => by cases hk))
  clear hown0 hgr0
  by_cases hl0 : l = []
  · subst hl0
    obtain ⟨a, c, rfl⟩ := reads_empty hr
    clear hr
    have hmk1 : (Instr.makeSlice 23 (.int .i64 0) (.int .i64 0)).run Tryz.prog w = .ok (.slice (some ⟨w.heap.size, 0, none⟩) 0 0) w0 := hmk0
    go_enter Tryz.func22, Tryz.ntmps22
    go_wp2
    go_loopw [4] (fun i wr => i = .int .i64 0 ∧ wr = w0) (fun _ _ => 0)
    case atStart => exact ⟨rfl, rfl⟩
    case round =>
      obtain ⟨rfl, rfl⟩ := hrel
      go_wp2
      go_ret
      exact ⟨_, rfl, HO0.out, HB0.out⟩
  · obtain ⟨g, off, cap, rfl, hm, hc⟩ := reads_some hr hl0
    have HC := Lib.hid hc
    clear hr hl0 hc hm
    generalize hn : l.length = n at *
    have HN := Lib.hid hn
    clear hn
    go_enter Tryz.func22, Tryz.ntmps22
    go_wp2
    clear hmk0
    go_loopw [4] (fun i wr => ∃ k : Nat, i = .int .i64 k ∧ k ≤ n ∧ Owns wr w.heap.size (.slice (some ⟨w.heap.size, 0, none⟩) n n) (filled l k) ∧ Below w.heap.size w wr) (fun i _ => n - (intOf i).toNat)
    case atStart => exact ⟨0, rfl, Nat.zero_le _, by rw [filled_zero, HN.out]; exact HO0.out, HB0.out⟩
    case round =>
      obtain ⟨k, rfl, hk, ho, hb⟩ := hrel
      have HO := Lib.hid ho
      have HB := Lib.hid hb
      have hsz := hb.size
      clear ho hb
      by_cases hlt : k < n
      · have hcell := HC.out k hlt
        have hlg := World.block_lt_of_cell? w _ hcell
        have d1 : wr.cell? ⟨g, off + k, none⟩ = some (.string (l.getD k ByteArray.empty)) := (HB.out.cell hlg).trans hcell
        have HL := Lib.hid (show n = (filled l k).length by rw [filled_length _ _ (by have := HN.out; omega)]; exact HN.out.symm)
        have d2 := (owns_cell HL.out HO.out k hlt).1
        have f2 := (owns_cell HL.out HO.out k hlt).2
        clear hcell
        generalize hx : l.getD k ByteArray.empty = x at d1
        have HX := Lib.hid hx
        clear hx
        go_wp2
        go_roundw
        case rel => exact ⟨k + 1, by go_num, by omega, by rw [← filled_set l k (by have := HN.out; omega), HX.out]; exact owns_set HL.out HO.out k x, HB.out.setCell (Nat.le_refl _) _⟩
        case measure => first | (simp [intOf]; done) | (simp [intOf]; omega)
      · obtain rfl : k = n := by omega
        go_wp2
        go_ret
        exact ⟨_, rfl, by have h := HO.out; rw [← HN.out, filled_all] at h; rw [← HN.out]; exact h, HB.out⟩

end Go.Proofs.YtckjmmapekaapaaGreatDoor
/- What the laws write into a list of trees: the walk. No conditions. -/
namespace Go.Proofs.YtckjmmapekaapaaGreatDoor
open Go.RowKit
set_option linter.unusedVariables false

theorem map_set_same {α β : Type} (f : α → β) (l : List α) (i : Nat) (x : α) (h : l[i]?.map f = some (f x)) : (l.set i x).map f = l.map f := by
  apply List.ext_getElem?
  intro j
  rw [List.getElem?_map, List.getElem?_map, List.getElem?_set]
  split
  · rename_i e
    subst e
    split
    · rw [h]; rfl
    · rename_i hn
      rw [List.getElem?_eq_none (by omega)]
  · rfl
theorem mk_next {w wr B1 W2 : World} {g c k0 i : Nat} {l : List El} {ks : List Ex.T} {le : List El} {v : Value} {F : List Nat} (h1 : le.map Prod.snd = l.map Prod.snd) (h2 : le.map Prod.fst = Ex.mrks (ks.take i) k0 ++ ks.drop i) (h3 : RowE wr g ks.length c (rowV le)) (h4 : Els wr le) (h5 : OnlyF (g :: elsF l) w wr) (hg : g ∉ elsF l) (hlt : ∀ b ∈ elsF l, b < w.heap.size)
    (hi : i < ks.length) (hp : le[i]? = some (ks[i], v, F)) (hb1 : Below (wr.setCell ⟨g, i * 5, none⟩ (.int .i64 ((k0 + 4 * Ex.counts (ks.take i) : Nat) : Int))).heap.size (wr.setCell ⟨g, i * 5, none⟩ (.int .i64 ((k0 + 4 * Ex.counts (ks.take i) : Nat) : Int))) B1)
    (hk : OwnK W2 v (Ex.mrks ks[i].kids (k0 + 4 * Ex.counts (ks.take i) + 4)) F)
    (ho : OnlyF F (((B1.setCell ⟨g, i * 5 + 1, none⟩ (.string (mark (k0 + 4 * Ex.counts (ks.take i) + 1)))).setCell ⟨g, i * 5 + 2, none⟩ (.int .i64 (((k0 + 4 * Ex.counts (ks.take i) : Nat) : Int) + 1 + 1))).setCell ⟨g, i * 5 + 3, none⟩ (.int .i64 (((k0 + 4 * Ex.counts (ks.take i) : Nat) : Int) + 1 + 1 + 1))) W2) :
    MkAt w g c l ks k0 (i + 1) W2 := by
  have hF : elsF le = elsF l := elsF_snd h1
  have hpm : (ks[i], v, F) ∈ le := List.mem_of_getElem? hp
  have hFm : ∀ b ∈ F, b ∈ elsF l := fun b hb => hF ▸ elsF_mem hpm hb
  have hgF : g ∉ F := fun e => hg (hFm g e)
  have hz : ∀ (A : World) (o : Nat) (u : Value), (A.setCell ⟨g, o, none⟩ u).heap.size = A.heap.size := fun A o u => by simp [World.setCell]
  have hlg := h3.lt
  have hs5 := h5.1.size
  have hsb := hb1.size
  rw [hz] at hsb
  -- the row
  have r1 := h3.set (i * 5) (.int .i64 ((k0 + 4 * Ex.counts (ks.take i) : Nat) : Int))
  have r2 := r1.keep (hb1.block g (by rw [hz]; exact hlg))
  have r3 := ((r2.set (i * 5 + 1) (.string (mark (k0 + 4 * Ex.counts (ks.take i) + 1)))).set (i * 5 + 2) (.int .i64 (((k0 + 4 * Ex.counts (ks.take i) : Nat) : Int) + 1 + 1))).set (i * 5 + 3) (.int .i64 (((k0 + 4 * Ex.counts (ks.take i) : Nat) : Int) + 1 + 1 + 1))
  have r4 := r3.keep (ho.2 g hgF (by rw [hz, hz, hz]; omega))
  rw [rowV_mark (p := (ks[i], v, F)) (ks := Ex.mrks ks[i].kids (k0 + 4 * Ex.counts (ks.take i) + 4)) le i hp] at r4
  -- other blocks
  have old : ∀ b, b ≠ g → b < wr.heap.size → b ∉ F → W2.heap[b]? = wr.heap[b]? := fun b hb1' hb2 hb3 => by
    rw [ho.2 b hb3 (by rw [hz, hz, hz]; omega), Below.heap_setCell _ _ _ _ hb1', Below.heap_setCell _ _ _ _ hb1', Below.heap_setCell _ _ _ _ hb1', hb1.block b (by rw [hz]; exact hb2), Below.heap_setCell _ _ _ _ hb1']
  have e : (Ex.T.node ((k0 + 4 * Ex.counts (ks.take i) : Nat) : Int) (mark (k0 + 4 * Ex.counts (ks.take i) + 1)) (((k0 + 4 * Ex.counts (ks.take i) : Nat) : Int) + 1 + 1) (((k0 + 4 * Ex.counts (ks.take i) : Nat) : Int) + 1 + 1 + 1) (Ex.mrks ks[i].kids (k0 + 4 * Ex.counts (ks.take i) + 4))) = ks[i].mrk (k0 + 4 * Ex.counts (ks.take i)) := (Ex.mrk_eq _ _).symm
  rw [e] at r4
  have hsnd : (le.set i (ks[i].mrk (k0 + 4 * Ex.counts (ks.take i)), v, F)).map Prod.snd = le.map Prod.snd := map_set_same _ _ _ _ (by rw [hp]; rfl)
  refine ⟨le.set i (ks[i].mrk (k0 + 4 * Ex.counts (ks.take i)), v, F), hsnd.trans h1, ?_, r4, ⟨fun p hpm2 => ?_, ?_⟩, ?_⟩
  · rw [List.map_set, h2, List.take_succ_eq_append_getElem hi, Ex.mrks_snoc, List.set_append_right _ _ (by rw [Ex.mrks_len, List.length_take]; omega), Ex.mrks_len, List.length_take, Nat.min_eq_left (by omega), Nat.sub_self, List.drop_eq_getElem_cons hi, List.append_assoc]
    rfl
  · obtain ⟨j, hj⟩ := List.mem_iff_getElem?.1 hpm2
    rw [List.getElem?_set] at hj
    split at hj
    · split at hj
      · have hj := Option.some.inj hj
        subst hj
        show OwnK W2 v (ks[i].mrk (k0 + 4 * Ex.counts (ks.take i))).kids F
        rw [Ex.mrk_eq]; exact hk
      · cases hj
    · rename_i hij
      have hpj : p ∈ le := List.mem_of_getElem? hj
      refine OwnK.keep _ (fun b hb => ?_) (h4.1 p hpj)
      have hbl : b ∈ elsF l := hF ▸ elsF_mem hpj hb
      refine old b (fun e => hg (e ▸ hbl)) (by have := hlt b hbl; omega) fun hbF => ?_
      have hpw := h4.2
      rw [List.pairwise_iff_getElem] at hpw
      obtain ⟨hi1, hi2⟩ := List.getElem?_eq_some_iff.1 hp
      obtain ⟨hj1, hj2⟩ := List.getElem?_eq_some_iff.1 hj
      rcases Nat.lt_or_ge i j with h | h
      · have h7 := hpw i j hi1 hj1 h b
        rw [hi2, hj2] at h7
        exact h7 hbF hb
      · have h7 := hpw j i hj1 hi1 (by omega) b
        rw [hi2, hj2] at h7
        exact h7 hb hbF
  · have h8 := h4.2
    rw [← List.pairwise_map (f := Prod.snd) (R := fun p q : Value × List Nat => ∀ b ∈ p.2, b ∉ q.2)] at h8 ⊢
    rw [hsnd]; exact h8
  · refine (((((h5.set List.mem_cons_self _ _).later hb1).set List.mem_cons_self _ _).set List.mem_cons_self _ _).set List.mem_cons_self _ _).trans ho fun b hb => List.mem_cons_of_mem _ (hFm b hb)
theorem mark_n (m : Nat) (w : World) (h1 : (m : Int) ≤ 100000000) :
    Calls Tryz.prog 31 #[.int .i64 ((m : Int) + 1)] w fun e w' => e = .returned (.string (mark (m + 1))) ∧ Below w.heap.size w w' := by
  have h := mark_text ((m : Int) + 1) w (by omega) (by omega)
  rw [show ((m : Int) + 1).toNat = m + 1 by omega] at h
  exact h
def MarkK (ks : List Ex.T) : Prop := ∀ (w : World) (v : Value) (F : List Nat) (k : Nat), OwnK w v ks F → (∀ b ∈ F, b < w.heap.size) → ((k + 4 * Ex.counts ks : Nat) : Int) ≤ 8000000 → ks.length ≤ 1048576 → Calls Tryz.prog 56 #[v, .int .i64 (k : Int)] w fun e w' => e = .returned (.int .i64 ((k + 4 * Ex.counts ks : Nat) : Int)) ∧ OwnK w' v (Ex.mrks ks k) F ∧ OnlyF F w w'
theorem mark_nil : MarkK [] := by
  intro w v F k ho hF hk hl
  rw [OwnK] at ho
  obtain ⟨rfl, a, c, rfl⟩ := ho
  go_enter Tryz.func56, Tryz.ntmps56
  go_wp2
  go_loopw [1, 5] (fun m i wr => m = .int .i64 k ∧ i = .int .i64 0 ∧ w = wr) (fun _ _ _ => 0)
  case atStart => exact ⟨rfl, rfl, rfl⟩
  case round =>
    obtain ⟨rfl, rfl, rfl⟩ := hrel
    go_wp2
    go_ret
    exact ⟨by simp [Ex.counts], by rw [Ex.mrks, OwnK]; exact ⟨rfl, _, _, rfl⟩, OnlyF.refl _ _⟩
theorem MkAt.done {w wr : World} {g c k0 : Nat} {l : List El} {ks : List Ex.T} (h : MkAt w g c l ks k0 ks.length wr) (hg : g ∉ elsF l) (h0 : ks ≠ []) : OwnK wr (.slice (some ⟨g, 0, none⟩) ks.length c) (Ex.mrks ks k0) (g :: elsF l) ∧ OnlyF (g :: elsF l) w wr := by
  obtain ⟨le, h1, h2, h3, h4, h5⟩ := h
  rw [List.take_length, List.drop_length, List.append_nil] at h2
  have hF : elsF le = elsF l := elsF_snd h1
  have hlen : le.length = ks.length := by
    have h6 := congrArg List.length h2
    rw [List.length_map, Ex.mrks_len] at h6; exact h6
  have hr : RowE wr g le.length c (rowV le) := by rw [hlen]; exact h3
  have hK := ownK_els hr h4 (hF ▸ hg)
  rw [hlen, h2, hF, if_neg (fun e => h0 (by have h7 := congrArg List.length e; rw [Ex.mrks_len] at h7; exact List.length_eq_zero_iff.1 h7))] at hK
  exact ⟨hK, h5⟩
end Go.Proofs.YtckjmmapekaapaaGreatDoor
