/- Joined texts: N37, G13, N38. No conditions besides those that each states. -/
import Derived.Test.YtbadepiakkhabaaDoorZ4
import Derived.Test.YtbadepiakkhabaaDoorZ7
import Derived.Test.YtbadepiakkhabaaDoorZ9
/- Drawn trees: leaves, the walk. No conditions. -/
namespace Go.Proofs.YtbadepiakkhabaaDoor
open Go.RowKit
set_option linter.unusedVariables false

def leafInts : List Int := [0, 1, 2, 10, 999999999999]
def leafKeys : List ByteArray := [⟨#[110, 117, 108, 108]⟩, ⟨#[102, 97, 105, 108]⟩, ⟨#[112, 111, 115]⟩, ⟨#[115, 117, 98, 106, 101, 99, 116]⟩, ⟨#[100, 105, 103, 105, 116, 115]⟩]
theorem leafKeys_small : ∀ s ∈ leafKeys, s.size ≤ 10 := by decide
def leafKinds : List Int := [4, 4, 4, 28]
def leafNames : List ByteArray := [⟨#[120]⟩, ⟨#[121]⟩, ⟨#[102, 111, 111]⟩, ⟨#[97, 95, 49]⟩]
theorem leafNames_small : ∀ s ∈ leafNames, s.size ≤ 10 := by decide
def leafBare : List Int := [14, 21, 22, 23, 24, 25, 6]
set_option maxRecDepth 100000 in
set_option maxHeartbeats 1600000 in
theorem draw_leaf (B cb : Nat) (w : World) (hp : IsCur B w cb) (hB : B ≤ w.heap.size) : Calls Tryd.prog 107 #[.pointer (some ⟨cb, 0, none⟩)] w (DrawnT 128 B cb w) := by
  have hcl := cur_lt hp
  have hne : w.heap.size ≠ cb := by omega
  have HD : Hid (LeafSt B cb w (w.alloc (.cells #[.int .i64 0, .string ⟨#[]⟩, .int .i64 0, .int .i64 0, .slice none 0 0] 105))) := Lib.hid ⟨FreeE.new _ _ _ _ _ _ _, cur_alloc hp hB _, only_alloc _⟩
  have HB := Lib.hid (draw_below B cb 6 _ HD.out.2.1 (by omega) (by omega))
  clear hp
  go_enter Tryd.func107, Tryd.ntmps107
  go_wp2_with fail
  refine HB.out.mono ?_
  rintro e w1 ⟨x, rfl, hx0, hx1, hc1, ho1⟩
  have HD1 := Lib.hid (HD.out.only hc1 ho1 hne)
  have hcw : cb < w1.heap.size := cur_lt hc1
  clear hc1 ho1 HD HB
  have pint : ∀ (l : List Int) (arr : Array Value), 0 < l.length → (l.length : Int) ≤ 1048576 → arr = (l.map (Value.int .i64)).toArray → Hid (Calls Tryd.prog 106 #[.pointer (some ⟨cb, 0, none⟩), .slice (some ⟨w1.heap.size, 0, none⟩) l.length l.length] (w1.alloc (.cells arr 3)) (Picked (Value.int .i64) l B cb (w1.alloc (.cells arr 3)))) := fun l arr h1 h2 h3 =>
    Lib.hid (pick_int B cb w1.heap.size l.length l _ (cur_alloc HD1.out.2.1 (Nat.le_trans hB (Nat.le_of_lt HD1.out.lt)) _) h1 h2 (by omega) (new_cells (Value.int .i64) l 0 w1 3 arr h3))
  have ptxt : ∀ (l : List ByteArray) (arr : Array Value), 0 < l.length → (l.length : Int) ≤ 1048576 → arr = (l.map Value.string).toArray → Hid (Calls Tryd.prog 105 #[.pointer (some ⟨cb, 0, none⟩), .slice (some ⟨w1.heap.size, 0, none⟩) l.length l.length] (w1.alloc (.cells arr 9)) (Picked Value.string l B cb (w1.alloc (.cells arr 9)))) := fun l arr h1 h2 h3 =>
    Lib.hid (pick_text B cb w1.heap.size l.length l _ (cur_alloc HD1.out.2.1 (Nat.le_trans hB (Nat.le_of_lt HD1.out.lt)) _) h1 h2 (by omega) (new_cells Value.string l ByteArray.empty w1 9 arr h3))
  have HPI := Lib.hid pint
  have HPT := Lib.hid ptxt
  clear pint ptxt
  by_cases h0 : x = 0
  · subst h0
    have HP := HPI.out leafInts _ (by decide) (by decide) rfl
    clear HPI HPT
    go_wp2_with fail
    refine HP.out.mono ?_
    rintro e w2 ⟨n, _, rfl, hc2, ho2⟩
    have HD2 := Lib.hid ((HD1.out.later (bl1 w1 _) hB).only hc2 ho2 hne)
    clear hc2 ho2 HD1 HP
    obtain ⟨⟨q0, q1, q2, q3, q4⟩, f0, f1, f2, f3, f4⟩ := HD2.out.1
    go_wp2
    exact bodyPost_ret (v := .agg #[.int .i64 1, .string ⟨#[]⟩, .int .i64 n, .int .i64 0, .slice none 0 0]) (by simp [results, Tryd.results107, go_sem, q0, q1, q2, q3, q4]) rfl (HD2.out.done hB hne _ _ _ _ (by decide))
  have b0 : (x == 0) = false := by simpa using h0
  by_cases h1 : x = 1
  · subst h1
    have HP := Lib.hid (draw_leafText B cb w1 HD1.out.2.1 (Nat.le_trans hB (Nat.le_of_lt HD1.out.lt)))
    clear HPI HPT
    go_wp2_with fail
    refine HP.out.mono ?_
    rintro e w2 ⟨s, rfl, hs, hc2, ho2⟩
    have HD2 := Lib.hid (HD1.out.only hc2 ho2 hne)
    clear hc2 ho2 HD1 HP
    obtain ⟨⟨q0, q1, q2, q3, q4⟩, f0, f1, f2, f3, f4⟩ := HD2.out.1
    go_wp2
    exact bodyPost_ret (v := .agg #[.int .i64 2, .string s, .int .i64 0, .int .i64 0, .slice none 0 0]) (by simp [results, Tryd.results107, go_sem, q0, q1, q2, q3, q4]) rfl (HD2.out.done hB hne _ _ _ _ (by omega))
  have b1 : (x == 1) = false := by simpa using h1
  by_cases h2 : x = 2
  · subst h2
    have HP := Lib.hid (draw_set B cb w1 HD1.out.2.1 (Nat.le_trans hB (Nat.le_of_lt HD1.out.lt)))
    clear HPI HPT
    go_wp2_with fail
    refine HP.out.mono ?_
    rintro e w2 ⟨l, h, rfl, _, hc2, ho2⟩
    have HD2 := Lib.hid (HD1.out.only hc2 ho2 hne)
    have HT := Lib.hid (fun wr => spec_text l h wr)
    have hz : (txt (Cs.text l h)).size ≤ 128 := by rw [txt_size]; exact Cs.textTo_len l h 128
    generalize txt (Cs.text l h) = s at HT hz
    clear hc2 ho2 HD1 HP
    go_wp2_with fail
    refine (HT.out _).mono ?_
    rintro e w3 ⟨rfl, b3⟩
    have HD3 := Lib.hid (HD2.out.later b3 hB)
    clear b3 HD2 HT
    obtain ⟨⟨q0, q1, q2, q3, q4⟩, f0, f1, f2, f3, f4⟩ := HD3.out.1
    go_wp2
    exact bodyPost_ret (v := .agg #[.int .i64 3, .string s, .int .i64 0, .int .i64 0, .slice none 0 0]) (by simp [results, Tryd.results107, go_sem, q0, q1, q2, q3, q4]) rfl (HD3.out.done hB hne _ _ _ _ hz)
  have b2 : (x == 2) = false := by simpa using h2
  by_cases h3 : x = 3
  · subst h3
    have HP := HPT.out leafKeys _ (by decide) (by decide) rfl
    clear HPI HPT
    go_wp2_with fail
    refine HP.out.mono ?_
    rintro e w2 ⟨s, hs, rfl, hc2, ho2⟩
    have HD2 := Lib.hid ((HD1.out.later (bl1 w1 _) hB).only hc2 ho2 hne)
    have hz := leafKeys_small s hs
    clear hs hc2 ho2 HD1 HP
    obtain ⟨⟨q0, q1, q2, q3, q4⟩, f0, f1, f2, f3, f4⟩ := HD2.out.1
    go_wp2
    exact bodyPost_ret (v := .agg #[.int .i64 5, .string s, .int .i64 0, .int .i64 0, .slice none 0 0]) (by simp [results, Tryd.results107, go_sem, q0, q1, q2, q3, q4]) rfl (HD2.out.done hB hne _ _ _ _ (by omega))
  have b3 : (x == 3) = false := by simpa using h3
  by_cases h4 : x = 4
  · subst h4
    have HP := HPI.out leafKinds _ (by decide) (by decide) rfl
    clear HPI HPT
    go_wp2_with fail
    refine HP.out.mono ?_
    rintro e w2 ⟨k, _, rfl, hc2, ho2⟩
    have HD2 := Lib.hid ((HD1.out.later (bl1 w1 _) hB).only hc2 ho2 hne)
    have hcw2 : cb < w2.heap.size := cur_lt hc2
    have HP2 := Lib.hid (pick_text B cb w2.heap.size 4 leafNames _ (cur_alloc HD2.out.2.1 (Nat.le_trans hB (Nat.le_of_lt HD2.out.lt)) _) (by decide) (by decide) (by omega) (new_cells Value.string leafNames ByteArray.empty w2 9 _ rfl))
    clear hc2 ho2 HD1 HP
    go_wp2_with fail
    refine HP2.out.mono ?_
    rintro e w3 ⟨s, hs, rfl, hc3, ho3⟩
    have HD3 := Lib.hid ((HD2.out.later (bl1 w2 _) hB).only hc3 ho3 hne)
    have hz := leafNames_small s hs
    clear hs hc3 ho3 HD2 HP2
    obtain ⟨⟨q0, q1, q2, q3, q4⟩, f0, f1, f2, f3, f4⟩ := HD3.out.1
    go_wp2
    exact bodyPost_ret (v := .agg #[.int .i64 k, .string s, .int .i64 0, .int .i64 0, .slice none 0 0]) (by simp [results, Tryd.results107, go_sem, q0, q1, q2, q3, q4]) rfl (HD3.out.done hB hne _ _ _ _ (by omega))
  have b4 : (x == 4) = false := by simpa using h4
  have HP := HPI.out leafBare _ (by decide) (by decide) rfl
  clear HPI HPT
  go_wp2_with fail
  refine HP.out.mono ?_
  rintro e w2 ⟨k, _, rfl, hc2, ho2⟩
  have HD2 := Lib.hid ((HD1.out.later (bl1 w1 _) hB).only hc2 ho2 hne)
  clear hc2 ho2 HD1 HP
  obtain ⟨⟨q0, q1, q2, q3, q4⟩, f0, f1, f2, f3, f4⟩ := HD2.out.1
  go_wp2
  exact bodyPost_ret (v := .agg #[.int .i64 k, .string ⟨#[]⟩, .int .i64 0, .int .i64 0, .slice none 0 0]) (by simp [results, Tryd.results107, go_sem, q0, q1, q2, q3, q4]) rfl (HD2.out.done hB hne _ _ _ _ (by decide))
end Go.Proofs.YtbadepiakkhabaaDoor
/- A bounded count of nodes, numbers of kids in the reference model. No conditions. -/
namespace Go.Proofs.YtbadepiakkhabaaDoor
open Go.RowKit
set_option linter.unusedVariables false

def LeftT (t : Ex.T) : Prop := t.bulk ≤ 1048576 → ∀ (w : World) (v : Value) (left : Nat), (left : Int) ≤ 1048576 → Kids w v t.kids → Calls Tryd.prog 117 #[exV t v, .int .i64 (left : Int)] w fun e w' => e = .returned (.int .i64 (szR left t.count)) ∧ Below w.heap.size w w'
/-- Where the bounded count stands. -/
def LfAt (ks : List Ex.T) (left k : Nat) (m : Int) : Prop := m = szR left (1 + Ex.counts (ks.take k))
theorem LfAt.start (ks : List Ex.T) (left : Nat) : LfAt ks left 0 ((left : Int) - 1) := by
  unfold LfAt szR
  simp only [List.take_zero, Ex.counts]
  split <;> omega
theorem LfAt.next {ks : List Ex.T} {left k : Nat} {m : Int} (h : LfAt ks left k m) (hk : k < ks.length) (n : Nat) (hn : m = n) : LfAt ks left (k + 1) (szR n ks[k].count) := by
  unfold LfAt at h ⊢
  rw [Ex.counts_take ks k hk]
  unfold szR at h ⊢
  split at h <;> (split <;> split <;> omega)
theorem LfAt.over {ks : List Ex.T} {left : Nat} {m : Int} (h : LfAt ks left ks.length m) : szR left (1 + Ex.counts ks) = m := by
  unfold LfAt at h
  rw [List.take_length] at h; exact h.symm
theorem LfAt.bad {ks : List Ex.T} {left k : Nat} {m : Int} (h : LfAt ks left k m) (hm : m < 0) : szR left (1 + Ex.counts ks) = m := by
  unfold LfAt at h
  have := Ex.counts_take_le ks k
  unfold szR at h ⊢
  split at h
  · omega
  · rw [if_neg (by omega)]; exact h.symm
theorem LfAt.ge {ks : List Ex.T} {left k : Nat} {m : Int} (h : LfAt ks left k m) : -1 ≤ m ∧ m ≤ left := by
  unfold LfAt szR at h
  split at h <;> omega
set_option maxHeartbeats 1600000 in
theorem spec_leftT : ∀ (N : Nat) (t : Ex.T), t.count ≤ N → LeftT t := by
  intro N
  induction N with
  | zero => intro t h; have := Ex.count_pos t; omega
  | succ N ih =>
    intro t hN hb w v left hs hk
    have hbe := bulk_eq t
    obtain ⟨a, c, rfl⟩ := kids_len hk
    have HI := Lib.hid (fun (x : Ex.T) (hx : x ∈ t.kids) => ih x (by have := kids_count hx; omega) (by have := Ex.bulks_mem hx; omega))
    have HK := Lib.hid hk
    have HCE := Lib.hid (count_eq t)
    have hln : t.kids.length ≤ 1048576 := by omega
    have HE0 := Lib.hid (CellsE.new w t (.slice a t.kids.length c) 105)
    have HST := Lib.hid (LfAt.start t.kids left)
    clear ih hN hb hk hbe
    go_enter Tryd.func117, Tryd.ntmps117
    go_wp2
    go_loopw [1, 5] (fun m i wr => ∃ (k : Nat) (n : Int), i = .int .i64 k ∧ m = .int .i64 n ∧ k ≤ t.kids.length ∧ LfAt t.kids left k n ∧ CellsE wr w.heap.size t (.slice a t.kids.length c) ∧ Below w.heap.size w wr) (fun _ i _ => t.kids.length - (intOf i).toNat)
    case atStart => exact ⟨0, _, rfl, rfl, by omega, HST.out, HE0.out, bl1 _ _⟩
    case round =>
      clear HE0 HST
      obtain ⟨k, n, rfl, rfl, hkk, hat, hce, hb⟩ := hrel
      have HAT := Lib.hid hat
      have HB := Lib.hid hb
      have HE := Lib.hid hce
      have HK2 := Lib.hid (HK.out.later hb)
      obtain ⟨hg1, hg2⟩ := hat.ge
      obtain ⟨e0, e1, e2, e3, e4⟩ := hce
      clear hat hb e0 e1 e2 e3
      by_cases hlt : k < t.kids.length
      · have k0 : (0 : Int) ≤ k := by omega
        have k1 : (k : Int) < t.kids.length := by omega
        by_cases hn : 0 ≤ n
        · obtain ⟨g, o, rfl, ht⟩ := kids_at HK2.out k hlt
          obtain ⟨⟨q0, q1, q2, q3⟩, v, q4, hkv⟩ := tree_cells ht
          obtain ⟨m, rfl⟩ : ∃ m : Nat, n = m := ⟨n.toNat, by omega⟩
          have HC := Lib.hid (HI.out t.kids[k] (List.getElem_mem hlt) wr v m (by omega) hkv)
          have HN := Lib.hid (HAT.out.next hlt m rfl)
          clear ht hkv HAT
          generalize t.kids[k] = x at q0 q1 q2 q3 HC HN
          generalize szR m x.count = z at HC HN
          go_wp2_with (go_at_call 117; refine HC.out.mono ?_; rintro e w1 ⟨rfl, hb1⟩; have HB1 := Lib.hid (below_then HB.out hb1); have HE1 := Lib.hid (HE.out.later hb1); clear hb1)
          go_roundw
          case rel => exact ⟨k + 1, z, by go_num, rfl, by omega, HN.out, HE1.out, HB1.out⟩
          case measure => first | (simp [intOf]; done) | (simp [intOf]; omega)
        · have HN := Lib.hid (HAT.out.bad (by omega))
          go_wp2
          go_ret
          exact ⟨ret_ei (by rw [HCE.out, HN.out]), HB.out⟩
      · obtain rfl : k = t.kids.length := by omega
        have HN := Lib.hid HAT.out.over
        go_wp2
        go_ret
        exact ⟨ret_ei (by rw [HCE.out, HN.out]), HB.out⟩
/-- The least and the greatest number of kids of a kind. -/
def Ex.kidsOf (k : Int) : Int × Int := if k = 6 then (0, 8) else if k = 7 then (1, 1) else if k = 8 then (2, 2) else if k = 9 then (2, 3) else if k = 10 then (1, 9) else if k = 11 then (2, 2) else if k = 12 then (3, 3) else if k = 13 then (1, 1) else if k = 14 then (0, 24) else if k = 15 then (2, 3) else if k = 16 then (1, 2) else if k = 17 then (1, 2) else if k = 18 then (1, 2) else if k = 19 then (1, 1) else if k = 20 then (1, 14) else if k = 21 then (0, 1) else if k = 22 then (0, 2) else if k = 24 then (0, 1) else if k = 26 then (1, 1) else if k = 27 then (1, 1) else if k = 29 then (2, 8) else (0, 0)
theorem counts_6 (t : Ex.T) (v : Value) (w : World) (h : t.kind = 6) : Calls Tryd.prog 108 #[exV t v] w fun e w' => e = .returned (.tuple #[.int .i64 0, .int .i64 8]) ∧ Below w.heap.size w w' := by
  go_enter Tryd.func108, Tryd.ntmps108
  go_wp2
  go_ret2
  exact ⟨rfl, bl1 _ _⟩
theorem counts_7 (t : Ex.T) (v : Value) (w : World) (h : t.kind = 7) : Calls Tryd.prog 108 #[exV t v] w fun e w' => e = .returned (.tuple #[.int .i64 1, .int .i64 1]) ∧ Below w.heap.size w w' := by
  go_enter Tryd.func108, Tryd.ntmps108
  go_wp2
  go_ret2
  exact ⟨rfl, bl1 _ _⟩
theorem counts_8 (t : Ex.T) (v : Value) (w : World) (h : t.kind = 8) : Calls Tryd.prog 108 #[exV t v] w fun e w' => e = .returned (.tuple #[.int .i64 2, .int .i64 2]) ∧ Below w.heap.size w w' := by
  go_enter Tryd.func108, Tryd.ntmps108
  go_wp2
  go_ret2
  exact ⟨rfl, bl1 _ _⟩
theorem counts_9 (t : Ex.T) (v : Value) (w : World) (h : t.kind = 9) : Calls Tryd.prog 108 #[exV t v] w fun e w' => e = .returned (.tuple #[.int .i64 2, .int .i64 3]) ∧ Below w.heap.size w w' := by
  go_enter Tryd.func108, Tryd.ntmps108
  go_wp2
  go_ret2
  exact ⟨rfl, bl1 _ _⟩
theorem counts_10 (t : Ex.T) (v : Value) (w : World) (h : t.kind = 10) : Calls Tryd.prog 108 #[exV t v] w fun e w' => e = .returned (.tuple #[.int .i64 1, .int .i64 9]) ∧ Below w.heap.size w w' := by
  go_enter Tryd.func108, Tryd.ntmps108
  go_wp2
  go_ret2
  exact ⟨rfl, bl1 _ _⟩
theorem counts_11 (t : Ex.T) (v : Value) (w : World) (h : t.kind = 11) : Calls Tryd.prog 108 #[exV t v] w fun e w' => e = .returned (.tuple #[.int .i64 2, .int .i64 2]) ∧ Below w.heap.size w w' := by
  go_enter Tryd.func108, Tryd.ntmps108
  go_wp2
  go_ret2
  exact ⟨rfl, bl1 _ _⟩
theorem counts_12 (t : Ex.T) (v : Value) (w : World) (h : t.kind = 12) : Calls Tryd.prog 108 #[exV t v] w fun e w' => e = .returned (.tuple #[.int .i64 3, .int .i64 3]) ∧ Below w.heap.size w w' := by
  go_enter Tryd.func108, Tryd.ntmps108
  go_wp2
  go_ret2
  exact ⟨rfl, bl1 _ _⟩
theorem counts_13 (t : Ex.T) (v : Value) (w : World) (h : t.kind = 13) : Calls Tryd.prog 108 #[exV t v] w fun e w' => e = .returned (.tuple #[.int .i64 1, .int .i64 1]) ∧ Below w.heap.size w w' := by
  go_enter Tryd.func108, Tryd.ntmps108
  go_wp2
  go_ret2
  exact ⟨rfl, bl1 _ _⟩
theorem counts_14 (t : Ex.T) (v : Value) (w : World) (h : t.kind = 14) : Calls Tryd.prog 108 #[exV t v] w fun e w' => e = .returned (.tuple #[.int .i64 0, .int .i64 24]) ∧ Below w.heap.size w w' := by
  go_enter Tryd.func108, Tryd.ntmps108
  go_wp2
  go_ret2
  exact ⟨rfl, bl1 _ _⟩
theorem counts_15 (t : Ex.T) (v : Value) (w : World) (h : t.kind = 15) : Calls Tryd.prog 108 #[exV t v] w fun e w' => e = .returned (.tuple #[.int .i64 2, .int .i64 3]) ∧ Below w.heap.size w w' := by
  go_enter Tryd.func108, Tryd.ntmps108
  go_wp2
  go_ret2
  exact ⟨rfl, bl1 _ _⟩
theorem counts_16 (t : Ex.T) (v : Value) (w : World) (h : t.kind = 16) : Calls Tryd.prog 108 #[exV t v] w fun e w' => e = .returned (.tuple #[.int .i64 1, .int .i64 2]) ∧ Below w.heap.size w w' := by
  go_enter Tryd.func108, Tryd.ntmps108
  go_wp2
  go_ret2
  exact ⟨rfl, bl1 _ _⟩
theorem counts_17 (t : Ex.T) (v : Value) (w : World) (h : t.kind = 17) : Calls Tryd.prog 108 #[exV t v] w fun e w' => e = .returned (.tuple #[.int .i64 1, .int .i64 2]) ∧ Below w.heap.size w w' := by
  go_enter Tryd.func108, Tryd.ntmps108
  go_wp2
  go_ret2
  exact ⟨rfl, bl1 _ _⟩
theorem counts_18 (t : Ex.T) (v : Value) (w : World) (h : t.kind = 18) : Calls Tryd.prog 108 #[exV t v] w fun e w' => e = .returned (.tuple #[.int .i64 1, .int .i64 2]) ∧ Below w.heap.size w w' := by
  go_enter Tryd.func108, Tryd.ntmps108
  go_wp2
  go_ret2
  exact ⟨rfl, bl1 _ _⟩
theorem counts_19 (t : Ex.T) (v : Value) (w : World) (h : t.kind = 19) : Calls Tryd.prog 108 #[exV t v] w fun e w' => e = .returned (.tuple #[.int .i64 1, .int .i64 1]) ∧ Below w.heap.size w w' := by
  go_enter Tryd.func108, Tryd.ntmps108
  go_wp2
  go_ret2
  exact ⟨rfl, bl1 _ _⟩
theorem counts_20 (t : Ex.T) (v : Value) (w : World) (h : t.kind = 20) : Calls Tryd.prog 108 #[exV t v] w fun e w' => e = .returned (.tuple #[.int .i64 1, .int .i64 14]) ∧ Below w.heap.size w w' := by
  go_enter Tryd.func108, Tryd.ntmps108
  go_wp2
  go_ret2
  exact ⟨rfl, bl1 _ _⟩
theorem counts_21 (t : Ex.T) (v : Value) (w : World) (h : t.kind = 21) : Calls Tryd.prog 108 #[exV t v] w fun e w' => e = .returned (.tuple #[.int .i64 0, .int .i64 1]) ∧ Below w.heap.size w w' := by
  go_enter Tryd.func108, Tryd.ntmps108
  go_wp2
  go_ret2
  exact ⟨rfl, bl1 _ _⟩
theorem counts_22 (t : Ex.T) (v : Value) (w : World) (h : t.kind = 22) : Calls Tryd.prog 108 #[exV t v] w fun e w' => e = .returned (.tuple #[.int .i64 0, .int .i64 2]) ∧ Below w.heap.size w w' := by
  go_enter Tryd.func108, Tryd.ntmps108
  go_wp2
  go_ret2
  exact ⟨rfl, bl1 _ _⟩
theorem counts_24 (t : Ex.T) (v : Value) (w : World) (h : t.kind = 24) : Calls Tryd.prog 108 #[exV t v] w fun e w' => e = .returned (.tuple #[.int .i64 0, .int .i64 1]) ∧ Below w.heap.size w w' := by
  go_enter Tryd.func108, Tryd.ntmps108
  go_wp2
  go_ret2
  exact ⟨rfl, bl1 _ _⟩
theorem counts_26 (t : Ex.T) (v : Value) (w : World) (h : t.kind = 26) : Calls Tryd.prog 108 #[exV t v] w fun e w' => e = .returned (.tuple #[.int .i64 1, .int .i64 1]) ∧ Below w.heap.size w w' := by
  go_enter Tryd.func108, Tryd.ntmps108
  go_wp2
  go_ret2
  exact ⟨rfl, bl1 _ _⟩
theorem counts_27 (t : Ex.T) (v : Value) (w : World) (h : t.kind = 27) : Calls Tryd.prog 108 #[exV t v] w fun e w' => e = .returned (.tuple #[.int .i64 1, .int .i64 1]) ∧ Below w.heap.size w w' := by
  go_enter Tryd.func108, Tryd.ntmps108
  go_wp2
  go_ret2
  exact ⟨rfl, bl1 _ _⟩
theorem counts_29 (t : Ex.T) (v : Value) (w : World) (h : t.kind = 29) : Calls Tryd.prog 108 #[exV t v] w fun e w' => e = .returned (.tuple #[.int .i64 2, .int .i64 8]) ∧ Below w.heap.size w w' := by
  go_enter Tryd.func108, Tryd.ntmps108
  go_wp2
  go_ret2
  exact ⟨rfl, bl1 _ _⟩
theorem counts_no (t : Ex.T) (v : Value) (w : World) (h6 : (t.kind == 6) = false) (h7 : (t.kind == 7) = false) (h8 : (t.kind == 8) = false) (h9 : (t.kind == 9) = false) (h10 : (t.kind == 10) = false) (h11 : (t.kind == 11) = false) (h12 : (t.kind == 12) = false) (h13 : (t.kind == 13) = false) (h14 : (t.kind == 14) = false) (h15 : (t.kind == 15) = false) (h16 : (t.kind == 16) = false) (h17 : (t.kind == 17) = false) (h18 : (t.kind == 18) = false) (h19 : (t.kind == 19) = false) (h20 : (t.kind == 20) = false) (h21 : (t.kind == 21) = false) (h22 : (t.kind == 22) = false) (h24 : (t.kind == 24) = false) (h26 : (t.kind == 26) = false) (h27 : (t.kind == 27) = false) (h29 : (t.kind == 29) = false) : Calls Tryd.prog 108 #[exV t v] w fun e w' => e = .returned (.tuple #[.int .i64 0, .int .i64 0]) ∧ Below w.heap.size w w' := by
  go_enter Tryd.func108, Tryd.ntmps108
  go_wp2
  go_ret2
  exact ⟨rfl, bl1 _ _⟩
theorem spec_counts (t : Ex.T) (v : Value) (w : World) : Calls Tryd.prog 108 #[exV t v] w fun e w' => e = .returned (.tuple #[.int .i64 (Ex.kidsOf t.kind).1, .int .i64 (Ex.kidsOf t.kind).2]) ∧ Below w.heap.size w w' := by
  by_cases h6 : t.kind = 6
  · rw [show Ex.kidsOf t.kind = (0, 8) by rw [h6]; rfl]; exact counts_6 t v w h6
  by_cases h7 : t.kind = 7
  · rw [show Ex.kidsOf t.kind = (1, 1) by rw [h7]; rfl]; exact counts_7 t v w h7
  by_cases h8 : t.kind = 8
  · rw [show Ex.kidsOf t.kind = (2, 2) by rw [h8]; rfl]; exact counts_8 t v w h8
  by_cases h9 : t.kind = 9
  · rw [show Ex.kidsOf t.kind = (2, 3) by rw [h9]; rfl]; exact counts_9 t v w h9
  by_cases h10 : t.kind = 10
  · rw [show Ex.kidsOf t.kind = (1, 9) by rw [h10]; rfl]; exact counts_10 t v w h10
  by_cases h11 : t.kind = 11
  · rw [show Ex.kidsOf t.kind = (2, 2) by rw [h11]; rfl]; exact counts_11 t v w h11
  by_cases h12 : t.kind = 12
  · rw [show Ex.kidsOf t.kind = (3, 3) by rw [h12]; rfl]; exact counts_12 t v w h12
  by_cases h13 : t.kind = 13
  · rw [show Ex.kidsOf t.kind = (1, 1) by rw [h13]; rfl]; exact counts_13 t v w h13
  by_cases h14 : t.kind = 14
  · rw [show Ex.kidsOf t.kind = (0, 24) by rw [h14]; rfl]; exact counts_14 t v w h14
  by_cases h15 : t.kind = 15
  · rw [show Ex.kidsOf t.kind = (2, 3) by rw [h15]; rfl]; exact counts_15 t v w h15
  by_cases h16 : t.kind = 16
  · rw [show Ex.kidsOf t.kind = (1, 2) by rw [h16]; rfl]; exact counts_16 t v w h16
  by_cases h17 : t.kind = 17
  · rw [show Ex.kidsOf t.kind = (1, 2) by rw [h17]; rfl]; exact counts_17 t v w h17
  by_cases h18 : t.kind = 18
  · rw [show Ex.kidsOf t.kind = (1, 2) by rw [h18]; rfl]; exact counts_18 t v w h18
  by_cases h19 : t.kind = 19
  · rw [show Ex.kidsOf t.kind = (1, 1) by rw [h19]; rfl]; exact counts_19 t v w h19
  by_cases h20 : t.kind = 20
  · rw [show Ex.kidsOf t.kind = (1, 14) by rw [h20]; rfl]; exact counts_20 t v w h20
  by_cases h21 : t.kind = 21
  · rw [show Ex.kidsOf t.kind = (0, 1) by rw [h21]; rfl]; exact counts_21 t v w h21
  by_cases h22 : t.kind = 22
  · rw [show Ex.kidsOf t.kind = (0, 2) by rw [h22]; rfl]; exact counts_22 t v w h22
  by_cases h24 : t.kind = 24
  · rw [show Ex.kidsOf t.kind = (0, 1) by rw [h24]; rfl]; exact counts_24 t v w h24
  by_cases h26 : t.kind = 26
  · rw [show Ex.kidsOf t.kind = (1, 1) by rw [h26]; rfl]; exact counts_26 t v w h26
  by_cases h27 : t.kind = 27
  · rw [show Ex.kidsOf t.kind = (1, 1) by rw [h27]; rfl]; exact counts_27 t v w h27
  by_cases h29 : t.kind = 29
  · rw [show Ex.kidsOf t.kind = (2, 8) by rw [h29]; rfl]; exact counts_29 t v w h29
  rw [show Ex.kidsOf t.kind = (0, 0) by unfold Ex.kidsOf; rw [if_neg h6, if_neg h7, if_neg h8, if_neg h9, if_neg h10, if_neg h11, if_neg h12, if_neg h13, if_neg h14, if_neg h15, if_neg h16, if_neg h17, if_neg h18, if_neg h19, if_neg h20, if_neg h21, if_neg h22, if_neg h24, if_neg h26, if_neg h27, if_neg h29]]
  exact counts_no t v w (beq_eq_false_iff_ne.2 h6) (beq_eq_false_iff_ne.2 h7) (beq_eq_false_iff_ne.2 h8) (beq_eq_false_iff_ne.2 h9) (beq_eq_false_iff_ne.2 h10) (beq_eq_false_iff_ne.2 h11) (beq_eq_false_iff_ne.2 h12) (beq_eq_false_iff_ne.2 h13) (beq_eq_false_iff_ne.2 h14) (beq_eq_false_iff_ne.2 h15) (beq_eq_false_iff_ne.2 h16) (beq_eq_false_iff_ne.2 h17) (beq_eq_false_iff_ne.2 h18) (beq_eq_false_iff_ne.2 h19) (beq_eq_false_iff_ne.2 h20) (beq_eq_false_iff_ne.2 h21) (beq_eq_false_iff_ne.2 h22) (beq_eq_false_iff_ne.2 h24) (beq_eq_false_iff_ne.2 h26) (beq_eq_false_iff_ne.2 h27) (beq_eq_false_iff_ne.2 h29)
end Go.Proofs.YtbadepiakkhabaaDoor
/- Drawn trees: where the drawing of an inner node stands. No conditions. -/
namespace Go.Proofs.YtbadepiakkhabaaDoor
open Go.RowKit
set_option linter.unusedVariables false

/-- A node that is being drawn: the result's variable, the node's, the cursor. -/
def TrSt (B cb : Nat) (w : World) (E : Nat) (k : Int) (s : ByteArray) (n : Int) (v : Value) (wr : World) : Prop :=
  LeafSt B cb w wr ∧ FreeE wr E k s n 0 v ∧ (w.heap.size < E ∧ s.size ≤ 4)
theorem TrSt.lt {B cb E : Nat} {w wr : World} {k n : Int} {s : ByteArray} {v : Value} (h : TrSt B cb w E k s n v wr) : E < wr.heap.size := h.2.1.lt
theorem TrSt.only {B cb E : Nat} {w wr wx : World} {k n : Int} {s : ByteArray} {v : Value} (h : TrSt B cb w E k s n v wr) (hcl : cb < w.heap.size) (hc : IsCur B wx cb) (ho : Only cb wr wx) : TrSt B cb w E k s n v wx :=
  ⟨h.1.only hc ho (by omega), h.2.1.only ho (by have := h.2.2.1; omega), h.2.2⟩
theorem TrSt.later {B cb E : Nat} {w wr wx : World} {k n : Int} {s : ByteArray} {v : Value} (h : TrSt B cb w E k s n v wr) (hB : B ≤ w.heap.size) (hb : Below wr.heap.size wr wx) : TrSt B cb w E k s n v wx :=
  ⟨h.1.later hb hB, h.2.1.later hb, h.2.2⟩
theorem LeafSt.set {B cb b : Nat} {w wr : World} (h : LeafSt B cb w wr) (hB : B ≤ w.heap.size) (hcl : cb < w.heap.size) (hb : w.heap.size < b) (o : Nat) (u : Value) : LeafSt B cb w (wr.setCell ⟨b, o, none⟩ u) := by
  obtain ⟨h1, h2, h3⟩ := h
  refine ⟨h1.keep (Below.heap_setCell wr ⟨b, o, none⟩ u _ (show w.heap.size ≠ b by omega)), ?_, ⟨h3.1, h3.2, h3.3, by simp [World.setCell]; exact h3.size, fun j hj1 hj2 => (Below.heap_setCell wr ⟨b, o, none⟩ u j (show j ≠ b by omega)).trans (h3.block j hj1 hj2)⟩⟩
  obtain ⟨v, m, i, x, c1, c2, c3⟩ := h2
  refine ⟨v, m, i, x, c1, code_below c2 ((Below.refl B wr).setCell (p := ⟨b, o, none⟩) (by show B ≤ b; omega) u), ?_⟩
  rw [Below.heap_setCell wr ⟨b, o, none⟩ u cb (show cb ≠ b by omega)]; exact c3
theorem TrSt.kind {B cb E : Nat} {w wr : World} {k n : Int} {s : ByteArray} {v : Value} (h : TrSt B cb w E k s n v wr) (hB : B ≤ w.heap.size) (hcl : cb < w.heap.size) (k2 : Int) : TrSt B cb w E k2 s n v (wr.setCell ⟨E, 0, none⟩ (.int .i64 k2)) := by
  refine ⟨h.1.set hB hcl h.2.2.1 _ _, ?_, h.2.2⟩
  obtain ⟨⟨a0, a1, a2, a3, a4⟩, f0, f1, f2, f3, f4⟩ := h.2.1
  refine ⟨⟨?_, ?_, ?_, ?_, ?_⟩, ?_, ?_, ?_, ?_, ?_⟩
  all_goals go_simp
theorem TrSt.text {B cb E : Nat} {w wr : World} {k n : Int} {s : ByteArray} {v : Value} (h : TrSt B cb w E k s n v wr) (hB : B ≤ w.heap.size) (hcl : cb < w.heap.size) (s2 : ByteArray) (hs : s2.size ≤ 4) : TrSt B cb w E k s2 n v (wr.setCell ⟨E, 1, none⟩ (.string s2)) := by
  refine ⟨h.1.set hB hcl h.2.2.1 _ _, ?_, ⟨h.2.2.1, hs⟩⟩
  obtain ⟨⟨a0, a1, a2, a3, a4⟩, f0, f1, f2, f3, f4⟩ := h.2.1
  refine ⟨⟨?_, ?_, ?_, ?_, ?_⟩, ?_, ?_, ?_, ?_, ?_⟩
  all_goals go_simp
theorem TrSt.num {B cb E : Nat} {w wr : World} {k n : Int} {s : ByteArray} {v : Value} (h : TrSt B cb w E k s n v wr) (hB : B ≤ w.heap.size) (hcl : cb < w.heap.size) (n2 : Int) : TrSt B cb w E k s n2 v (wr.setCell ⟨E, 2, none⟩ (.int .i64 n2)) := by
  refine ⟨h.1.set hB hcl h.2.2.1 _ _, ?_, h.2.2⟩
  obtain ⟨⟨a0, a1, a2, a3, a4⟩, f0, f1, f2, f3, f4⟩ := h.2.1
  refine ⟨⟨?_, ?_, ?_, ?_, ?_⟩, ?_, ?_, ?_, ?_, ?_⟩
  all_goals go_simp
theorem TrSt.kids {B cb E : Nat} {w wr : World} {k n : Int} {s : ByteArray} {v : Value} (h : TrSt B cb w E k s n v wr) (hB : B ≤ w.heap.size) (hcl : cb < w.heap.size) (u : Value) : TrSt B cb w E k s n u (wr.setCell ⟨E, 4, none⟩ u) :=
  ⟨h.1.set hB hcl h.2.2.1 _ _, h.2.1.fifth u, h.2.2⟩
theorem ite_mem {α : Type} {c : Prop} [Decidable c] {a b : α} {l : List α} (ha : a ∈ l) (hb : b ∈ l) : (if c then a else b) ∈ l := by split <;> assumption
theorem kids_bounds (k : Int) : 0 ≤ (Ex.kidsOf k).1 ∧ (Ex.kidsOf k).1 ≤ 3 ∧ 0 ≤ (Ex.kidsOf k).2 ∧ (Ex.kidsOf k).2 ≤ 24 := by
  have h : Ex.kidsOf k ∈ ([(0, 8), (1, 1), (2, 2), (2, 3), (1, 9), (3, 3), (0, 24), (1, 2), (1, 14), (0, 1), (0, 2), (2, 8), (0, 0)] : List (Int × Int)) := by
    unfold Ex.kidsOf
    repeat refine ite_mem (by decide) ?_
    decide
  have hall : ∀ p ∈ ([(0, 8), (1, 1), (2, 2), (2, 3), (1, 9), (3, 3), (0, 24), (1, 2), (1, 14), (0, 1), (0, 2), (2, 8), (0, 0)] : List (Int × Int)), 0 ≤ p.1 ∧ p.1 ≤ 3 ∧ 0 ≤ p.2 ∧ p.2 ≤ 24 := by decide
  exact hall _ h
theorem min_at (a b : Int) (w : World) : Calls Tryd.prog 109 #[.int .i64 a, .int .i64 b] w fun e w' => e = .returned (.int .i64 (min a b)) ∧ w = w' := by
  by_cases h : a < b
  · rw [show min a b = a by omega]
    go_enter Tryd.func109, Tryd.ntmps109
    go_wp2
    go_ret
    exact ⟨rfl, rfl⟩
  · rw [show min a b = b by omega]
    go_enter Tryd.func109, Tryd.ntmps109
    go_wp2
    go_ret
    exact ⟨rfl, rfl⟩
/-- The greatest bulk of a drawn tree. -/
def bnd : Nat → Nat
  | 0 => 128
  | e + 1 => 10 + 6 * bnd e
theorem bnd_le (e : Nat) : 128 ≤ bnd e := by
  induction e with
  | zero => exact Nat.le_refl _
  | succ e ih => rw [bnd]; omega
/-- Elements no greater than M. -/
def Small (M : Nat) (ld : List El) : Prop := ∀ p ∈ ld, p.1.bulk ≤ M
theorem small_bulk {M : Nat} : ∀ {ld : List El}, Small M ld → Ex.bulks (ld.map Prod.fst) ≤ ld.length * M := by
  intro ld
  induction ld with
  | nil => intro _; simp [Ex.bulks]
  | cons p r ih =>
    intro h
    rw [List.map_cons, Ex.bulks, List.length_cons, Nat.succ_mul]
    have h1 := h p List.mem_cons_self
    have h2 := ih fun q hq => h q (List.mem_cons_of_mem _ hq)
    omega
theorem LeafSt.ret {B cb : Nat} {w wr : World} (h : LeafSt B cb w wr) (hB : B ≤ w.heap.size) (hne : w.heap.size ≠ cb) {t : Ex.T} {v : Value} {F : List Nat} {M : Nat} (ho : OwnK wr v t.kids F) (hF : ∀ b ∈ F, w.heap.size < b ∧ b < wr.heap.size) (hb : t.bulk ≤ M) :
    DrawnT M B cb w (.returned (exV t v)) (((((wr.setCell ⟨w.heap.size, 0, none⟩ (.int .i64 t.kind)).setCell ⟨w.heap.size, 1, none⟩ (.string t.text)).setCell ⟨w.heap.size, 2, none⟩ (.int .i64 t.num)).setCell ⟨w.heap.size, 3, none⟩ (.int .i64 t.line)).setCell ⟨w.heap.size, 4, none⟩ v) := by
  have hset : ∀ (A : World) (o : Nat) (u : Value), Only cb w A → IsCur B A cb → Only cb w (A.setCell ⟨w.heap.size, o, none⟩ u) ∧ IsCur B (A.setCell ⟨w.heap.size, o, none⟩ u) cb := by
    intro A o u hA hc
    refine ⟨⟨hA.1, hA.2, hA.3, by simp [World.setCell]; exact hA.size, fun b h1 h2 => (Below.heap_setCell A ⟨w.heap.size, o, none⟩ u b (show b ≠ w.heap.size by omega)).trans (hA.block b h1 h2)⟩, ?_⟩
    obtain ⟨v, m, i, x, h1, h2, h3⟩ := hc
    refine ⟨v, m, i, x, h1, code_below h2 ((Below.refl B A).setCell (p := ⟨w.heap.size, o, none⟩) hB u), ?_⟩
    rw [Below.heap_setCell A ⟨w.heap.size, o, none⟩ u cb (fun e => hne e.symm)]; exact h3
  obtain ⟨h1, h2, h3⟩ := h
  obtain ⟨o1, c1⟩ := hset _ 0 (.int .i64 t.kind) h3 h2
  obtain ⟨o2, c2⟩ := hset _ 1 (.string t.text) o1 c1
  obtain ⟨o3, c3⟩ := hset _ 2 (.int .i64 t.num) o2 c2
  obtain ⟨o4, c4⟩ := hset _ 3 (.int .i64 t.line) o3 c3
  obtain ⟨o5, c5⟩ := hset _ 4 v o4 c4
  refine ⟨t, v, F, rfl, OwnK.keep _ (fun b hbF => ?_) ho, fun b hbF => ?_, hb, c5, o5⟩
  · have := hF b hbF
    rw [Below.heap_setCell _ _ _ _ (show b ≠ w.heap.size by omega), Below.heap_setCell _ _ _ _ (show b ≠ w.heap.size by omega), Below.heap_setCell _ _ _ _ (show b ≠ w.heap.size by omega), Below.heap_setCell _ _ _ _ (show b ≠ w.heap.size by omega), Below.heap_setCell _ _ _ _ (show b ≠ w.heap.size by omega)]
  · have := hF b hbF
    refine ⟨by omega, ?_⟩
    simpa [World.setCell] using this.2
theorem TrSt.grown {B cb E : Nat} {w wa w8 : World} {k n : Int} {s : ByteArray} {v : Value} {row : Option Nat} (h : TrSt B cb w E k s n v wa) (hB : B ≤ w.heap.size) (hcl : cb < w.heap.size) (hgr : wa.grownBy w8 row) (hrow : ∀ b, row = some b → E < b) : TrSt B cb w E k s n v w8 := by
  obtain ⟨⟨h1, h2, h3⟩, h4, h5, h6⟩ := h
  have hsz := h1.lt
  have hs4 := h4.lt
  have old : ∀ b, b ≤ E → b < wa.heap.size → w8.heap[b]? = wa.heap[b]? := fun b hb1 hb2 => hgr.block b hb2 fun e => by have := hrow b e.symm; omega
  refine ⟨⟨h1.keep (old _ (by omega) hsz), ?_, ⟨hgr.1.trans h3.1, hgr.2.trans h3.2, hgr.3.trans h3.3, Nat.le_trans h3.size hgr.size, fun j hj1 hj2 => (old j (by omega) (by omega)).trans (h3.block j hj1 hj2)⟩⟩, h4.keep (old _ (Nat.le_refl _) hs4), h5, h6⟩
  · obtain ⟨v, m, i, x, c1, c2, c3⟩ := h2
    refine ⟨v, m, i, x, c1, code_below c2 ((Below.refl B wa).grown hgr (by omega) fun b e => by have := hrow b e; omega), ?_⟩
    rw [old cb (by omega) (by omega)]; exact c3
theorem AppK.only {B cb : Nat} {w w1 : World} {v : Value} {ld : List El} (h : AppK B w v ld) (ho : Only cb w w1) (hcb : cb < B) : AppK B w1 v ld :=
  h.keep ho.size fun b hb1 hb2 => ho.block b hb2 fun e => by have := Option.some.inj e; omega
theorem tr_next {B cb E : Nat} {w wr w6 w8 : World} {k n : Int} {s : ByteArray} {x : Ex.T} {v v6 : Value} {ld : List El} {g8 c8 : Nat} {F6 : List Nat} (hT : TrSt B cb w E k s n v wr) (hB : B ≤ w.heap.size) (hcl : cb < w.heap.size) (hap : AppK (E + 1) wr v ld)
    (o6 : OwnK w6 v6 x.kids F6) (f6 : Foot wr.drew.heap.size w6 F6) (c6 : IsCur B w6 cb) (on6 : Only cb wr.drew w6)
    (hown : w8.ownsRow (E + 1) 105 5 (.slice (some ⟨g8, 0, none⟩) (ld.length + 1) c8) (ld.length + 1) (rowV ld ++ rowV [(x, v6, F6)])) (hgr : (w6.alloc (iexN x v6)).grownBy w8 v.ownBlock) (hor : v.ownBlock = some g8 ∨ (w6.alloc (iexN x v6)).heap.size ≤ g8) :
    TrSt B cb w E k s n (.slice (some ⟨g8, 0, none⟩) (ld.length + 1) c8) (w8.setCell ⟨E, 4, none⟩ (.slice (some ⟨g8, 0, none⟩) (ld.length + 1) c8)) ∧ AppK (E + 1) (w8.setCell ⟨E, 4, none⟩ (.slice (some ⟨g8, 0, none⟩) (ld.length + 1) c8)) (.slice (some ⟨g8, 0, none⟩) (ld.length + 1) c8) (ld ++ [(x, v6, F6)]) := by
  have hE := hT.2.2.1
  have hTd := hT.later hB ((Below.refl wr.heap.size wr).drew)
  have hT6 := (hTd.only hcl c6 on6).later hB (bl1 w6 (iexN x v6))
  have hsz : (w6.alloc (iexN x v6)).heap.size = w6.heap.size + 1 := by simp
  have hs6 : wr.heap.size ≤ w6.heap.size := on6.size
  have hap7 := ((hap.later ((Below.refl wr.heap.size wr).drew)).only on6 (by omega)).later (bl1 w6 (iexN x v6))
  have hT8 := hT6.grown hB hcl hgr fun b e => by have := (ownBlock_lt hap.1 e).1; omega
  refine ⟨hT8.kids hB hcl _, AppK.set (AppK.push (p := (x, v6, F6)) hap7 (OwnK.keep _ (fun b hb2 => ?_) o6) (fun b hb2 => ?_) hown hgr rfl hor) (Nat.lt_succ_self _) _ _⟩
  · have := f6 b hb2
    exact (bl1 w6 _).block b this.2
  · have h1 := f6 b hb2
    have h2 : wr.drew.heap.size = wr.heap.size := rfl
    rw [h2] at h1
    have h3 := hT.lt
    refine ⟨by omega, by omega, fun h4 => ?_, fun e => ?_⟩
    · have := hap.2.2.1 b h4; omega
    · have := (ownBlock_lt hap.1 e).2; omega
theorem step_tree {B cb e : Nat} {dv : Value} {w : World} {ops : Array Oper} {o : Oper} {a : Act} {K : Act → World → Prop} {Q : Exit → Act → World → Prop} {E : Prop} (hgd : o.guard = none) (x y : Operand)
    (ho : o.op = .call { callee := .value (.func 76), args := #[x, y], argTypes := #[91, 3] }) (hx : a.eval x = .pointer (some ⟨cb, 0, none⟩)) (hy : a.eval y = dv) (hc : Calls Tryd.prog 76 #[.pointer (some ⟨cb, 0, none⟩), dv] w (DrawnT (bnd e) B cb w))
    (h : ∀ t v F w', OwnK w' v t.kids F → Foot w.heap.size w' F → t.bulk ≤ bnd e → IsCur B w' cb → Only cb w w' → K (a.put o.dst (exV t v)) w') : if Region.wanted o (yielded ops a.tmps) = true then Oper.wp Tryd.prog o a w K Q else E := by
  have hw : Region.wanted o (yielded ops a.tmps) = true := by simp [Region.wanted, hgd]
  rw [if_pos hw]
  have hen : (execOp a.eval o).run Tryd.prog w = .ok (.enter 76 #[.pointer (some ⟨cb, 0, none⟩), dv]) w := by
    unfold execOp
    rw [ho]
    unfold Act.eval at hx hy
    go_simp
    refine ⟨?_, ?_⟩
    · simpa using hx
    · simpa using hy
  unfold Oper.wp
  rw [hen, Oper.upon_enter]
  exact hc.mono fun e w' ⟨t, v, F, h1, h2, h3, h4, h5, h6⟩ => by subst h1; exact h t v F w' h2 h3 h4 h5 h6
end Go.Proofs.YtbadepiakkhabaaDoor
