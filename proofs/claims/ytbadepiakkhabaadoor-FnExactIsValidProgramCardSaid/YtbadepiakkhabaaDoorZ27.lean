/- Joined texts: V4, V440, A38. No conditions besides those that each states. -/
import Derived.Test.YtbadepiakkhabaaDoorZ24
import Derived.Test.YtbadepiakkhabaaDoorZ25
import Derived.Test.YtbadepiakkhabaaDoorZ26
/- Lists of names that grow by append, where their blocks lie. No conditions. -/
namespace Go.Proofs.YtbadepiakkhabaaDoor
open Go.RowKit
set_option linter.unusedVariables false

theorem Is.strs_of_owns {w : World} {base : Nat} {v : Value} {l : List ByteArray} (h : Owns w base v l) : Is w (strsD l) v := by
  obtain ⟨F, h1, _⟩ := own_of_owns h
  exact h1.is
theorem append_str2 {B : Nat} {w : World} {v : Value} {l : List ByteArray} (ty : TypeId) (hown : Owns w B v l) (ad : Addr) (y : ByteArray) (hy : w.cell? ad = some (.string y)) (hn : l.length ≤ 1048576) (hB : B ≤ w.heap.size) :
    ∃ g c' w', (Builtin.append_ #[35, 35] ty #[v, .slice (some ad) 1 1]).run Tryd.prog w = .ok (.slice (some ⟨g, 0, none⟩) (l.length + 1) c') w' ∧ Owns w' B (.slice (some ⟨g, 0, none⟩) (l.length + 1) c') (l ++ [y]) ∧ w.grownBy w' v.ownBlock ∧ (v.ownBlock = some g ∨ w.heap.size ≤ g) := by
  obtain ⟨i0, hi, hz0, hz1, hz2⟩ := info_parts info_string
  obtain ⟨v', w', hr, h2, h3, g, c', rfl, h4, h5⟩ := append_row (B := B) (w := w) (v := v) (n := l.length) (z := 1) (by' := 16) Tryd.underlying35 hi hz0 hz1 hz2 rfl (by decide) (by decide) ty hown ad 1 [.string y] rfl (fun j u h => by
    match j, h with
    | 0, h => obtain rfl := Option.some.inj h; rw [show ad.add 0 = ad by unfold Addr.add; rfl]; exact hy) (one_string y) (by omega) hB
  exact ⟨g, c', w', hr, owns_app h2, h3, h5⟩
theorem wpList_append_str {B : Nat} {w : World} {v : Value} {l : List ByteArray} {ops : Array Oper} {rest : List Oper} {o : Oper} {a : Act} {Q : Exit → Act → World → Prop} (hgd : o.guard = none) (s x : Operand)
    (ho : o.op = .call { callee := .builtin .append, args := #[s, x], argTypes := #[35, 35] }) (hs : a.eval s = v) (hown : Owns w B v l) (ad : Addr) (y : ByteArray) (hx : a.eval x = .slice (some ad) 1 1) (hy : w.cell? ad = some (.string y)) (hn : l.length ≤ 1048576) (hB : B ≤ w.heap.size)
    (h : ∀ g c' w', Owns w' B (.slice (some ⟨g, 0, none⟩) (l.length + 1) c') (l ++ [y]) → w.grownBy w' v.ownBlock → (v.ownBlock = some g ∨ w.heap.size ≤ g) → wpList Tryd.prog ops Q rest (a.put o.dst (.slice (some ⟨g, 0, none⟩) (l.length + 1) c')) w') : wpList Tryd.prog ops Q (o :: rest) a w := by
  refine wpList_plain hgd fun K hK => ?_
  obtain ⟨g, c', w', hr, h2, h3, h4⟩ := append_str2 o.type hown ad y hy hn hB
  unfold Oper.wp execOp
  simp only [ho, resolve, invoke, builtin, Sem.run_bind, Sem.run_pure, Result.andThen_ok, List.map_toArray, List.map_cons, List.map_nil, hs, hx, hr]
  exact hK _ _ (h g c' w' h2 h3 h4)
/-- The block of a list is one of those of another list, or new. -/
def Moves (w : World) (v v' : Value) : Prop := ∀ b, v'.ownBlock = some b → v.ownBlock = some b ∨ w.heap.size ≤ b
theorem Moves.refl (w : World) (v : Value) : Moves w v v := fun b h => .inl h
theorem grown_refl {w : World} (r : Option Nat) : w.grownBy w r := ⟨rfl, rfl, rfl, Nat.le_refl _, fun _ _ _ => rfl⟩
theorem grown_then {w w1 w2 : World} {v v1 : Value} (h1 : w.grownBy w1 v.ownBlock) (h2 : w1.grownBy w2 v1.ownBlock) (hm : Moves w v v1) : w.grownBy w2 v.ownBlock :=
  ⟨h2.os.trans h1.os, h2.tape.trans h1.tape, h2.output.trans h1.output, Nat.le_trans h1.size h2.size, fun b hb hne => (h2.block b (Nat.lt_of_lt_of_le hb h1.size) (fun e => by
    rcases hm b e.symm with h | h
    · exact hne h.symm
    · omega)).trans (h1.block b hb hne)⟩
theorem Moves.trans {w w1 : World} {v v1 v2 : Value} {r : Option Nat} (h1 : Moves w v v1) (h2 : Moves w1 v1 v2) (hg : w.grownBy w1 r) : Moves w v v2 := fun b hb => by
  rcases h2 b hb with h | h
  · exact h1 b h
  · exact .inr (Nat.le_trans hg.size h)
theorem grown_below {w w' : World} (h : Below w.heap.size w w') (r : Option Nat) : w.grownBy w' r := ⟨h.os, h.tape, h.output, h.size, fun b hb _ => h.block b hb⟩
theorem below_grown {B : Nat} {w0 w w' : World} {v : Value} {l : List ByteArray} (hb : Below B w0 w) (hown : Owns w B v l) (hB : B ≤ w0.heap.size) (hg : w.grownBy w' v.ownBlock) : Below B w0 w' := hb.trans ((Below.refl _ _).grown hg (Nat.le_trans hB hb.size) (fun k e => (World.ownsRow.lt hown k e).1))
theorem owns_keep {w w1 : World} {B : Nat} {v : Value} {l : List ByteArray} (h : Owns w B v l) (hb : ∀ b, v.ownBlock = some b → w1.heap[b]? = w.heap[b]?) : Owns w1 B v l := row_keep h hb
theorem owns_lt {w : World} {B : Nat} {v : Value} {l : List ByteArray} (h : Owns w B v l) {b : Nat} (hb : v.ownBlock = some b) : B ≤ b ∧ b < w.heap.size := World.ownsRow.lt h b hb
theorem owns_later {w w1 : World} {B : Nat} {v : Value} {l : List ByteArray} (h : Owns w B v l) (hb : Below w.heap.size w w1) : Owns w1 B v l := owns_keep h fun b e => hb.block b (owns_lt h e).2
theorem owns_slice {w : World} {B : Nat} {v : Value} {l : List ByteArray} (h : Owns w B v l) : ∃ a c, v = .slice a l.length c := by
  rcases h.2 with ⟨rfl, h0⟩ | ⟨g2, cap2, cur, rfl, _⟩
  · rw [h0]; exact ⟨_, _, rfl⟩
  · exact ⟨_, _, rfl⟩
/-- A variable's cells behind a step that turns one list's block. -/
theorem Var.grown {w w' : World} {b : Nat} {us : List Value} {r : Option Nat} (h : Var w b us) (hb : b < w.heap.size) (hg : w.grownBy w' r) (hne : r ≠ some b) : Var w' b us := h.keep (hg.block b hb fun e => hne e.symm)
mutual
theorem coll_len (u : Un) : ∀ (t : Ex.T) (acc : List ByteArray), (coll u t acc).length ≤ acc.length + t.count
  | .node k t n l ks, acc => by
    rw [coll, Ex.T.count]
    have h := colls_len u ks acc
    split
    · split
      · rw [List.length_append, List.length_singleton]; omega
      · omega
    · omega
theorem colls_len (u : Un) : ∀ (ks : List Ex.T) (acc : List ByteArray), (colls u ks acc).length ≤ acc.length + Ex.counts ks
  | [], acc => by rw [colls, Ex.counts]; omega
  | x :: r, acc => by
    rw [colls, Ex.counts]
    have h1 := coll_len u x acc
    have h2 := colls_len u r (coll u x acc)
    omega
end
theorem colls_app (u : Un) : ∀ (a b : List Ex.T) (acc : List ByteArray), colls u (a ++ b) acc = colls u b (colls u a acc)
  | [], b, acc => by rw [List.nil_append, colls]
  | x :: r, b, acc => by rw [List.cons_append, colls, colls, colls_app u r b]
theorem colls_take (u : Un) (ks : List Ex.T) (k : Nat) (hk : k < ks.length) (acc : List ByteArray) : colls u (ks.take (k + 1)) acc = coll u ks[k] (colls u (ks.take k) acc) := by
  rw [List.take_succ_eq_append_getElem hk, colls_app, colls, colls]
theorem coll_eq (u : Un) (t : Ex.T) (acc : List ByteArray) : coll u t acc = if t.kind == 4 || t.kind == 28 then (if fresh u t.text acc then acc ++ [t.text] else acc) else colls u t.kids acc := by
  cases t; rw [coll]; rfl
end Go.Proofs.YtbadepiakkhabaaDoor
/- The program's sets of names: adding names, distinct names. The table reads as the program's text lays it. -/
namespace Go.Proofs.YtbadepiakkhabaaDoor
open Go.RowKit
set_option linter.unusedVariables false

def AddB (b n : Nat) (f : ByteArray → Bool) (r : Bool) (w : World) (e : Ending) (w' : World) : Prop := e = .returned (.bool r) ∧ SetM w' b n f ∧ w.grownBy w' (some b)
set_option maxRecDepth 100000 in
set_option maxHeartbeats 3200000 in
theorem impl_add (b n : Nat) (f : ByteArray → Bool) (l : List ByteArray) (v : Value) (w : World) (h : SetM w b n f) (hk : Is w (strsD l) v) (hs : ∀ s ∈ l, s.size ≤ maxLen) (hn : n + l.length ≤ 16777216) :
    Calls Tryd.prog 126 #[.map (some b), v] w (AddB b (n + l.length) (addL f l) (newAt f l l.length) w) := by
  unfold AddB
  obtain ⟨a, c, rfl⟩ := is_slice hk
  have HK := Lib.hid hk
  have HM := Lib.hid h
  have HS := Lib.hid hs
  have HST : Hid (SetM w b (n + 0) (addL f (l.take 0))) := Lib.hid (h.congr (addL_zero f l))
  have hl : (l.length : Int) ≤ 16777216 := by omega
  have HN := Lib.hid hn
  clear hk h hs hn
  go_enter Tryd.func126, Tryd.ntmps126
  go_wp2
  go_loopw [5, 7, 10] (fun r _ i wr => ∃ k : Nat, i = .int .i64 k ∧ k ≤ l.length ∧ r = .bool (newAt f l k) ∧ SetM wr b (n + k) (addL f (l.take k)) ∧ w.grownBy wr (some b)) (fun _ _ i _ => l.length - (intOf i).toNat)
  case atStart => exact ⟨0, rfl, Nat.zero_le _, rfl, HST.out, grown_refl _⟩
  case round =>
    clear HST
    obtain ⟨k, rfl, hk, rfl, hm, hg⟩ := hrel
    have HMK := Lib.hid hm
    have HG := Lib.hid hg
    by_cases hlt : k < l.length
    · obtain ⟨g, o, rfl, q0⟩ := str_at (Is.mono (subw_set HM.out hg) _ _ HK.out) k hlt
      have HSK := Lib.hid (HS.out l[k] (List.getElem_mem hlt))
      have HL := Lib.hid (hm.look HSK.out)
      have HAN := Lib.hid (newAt_succ f l k hlt)
      have HAL := Lib.hid (fun s => addL_succ f l k hlt s)
      have HNK : Hid (n + k < maxLen) := Lib.hid (by have := HN.out; unfold maxLen; omega)
      have k0 : (0 : Int) ≤ (k : Int) := by omega
      have k1 : (k : Int) < l.length := by omega
      obtain ⟨y, hy⟩ : ∃ y, addL f (l.take k) l[k] = y := ⟨_, rfl⟩
      rw [hy] at HL HAN
      clear hm hg hy
      generalize l[k] = x at q0 HSK HL HAL
      have HLT := Lib.hid hlt
      clear hlt
      cases hb : newAt f l k
      · rw [hb] at HAN
        clear hb
        go_wp2_with (at_mapUpdate; refine wpList_mark rfl _ _ _ rfl rfl rfl rfl HMK.out HSK.out HNK.out ?_; intro w2 hm2 hg2)
        have HM2 : Hid (SetM w2 b (n + (k + 1)) (addL f (l.take (k + 1)))) := Lib.hid (hm2.congr HAL.out)
        have HG2 := Lib.hid (grownr_trans HG.out hg2)
        clear hm2 hg2 q0
        go_roundw
        case rel => exact ⟨k + 1, by go_num, HLT.out, by rw [HAN.out]; rfl, HM2.out, HG2.out⟩
        case measure => have := HLT.out; first | (simp [intOf]; done) | (simp [intOf]; omega)
      · rw [hb] at HAN
        have hl2 := HL.out
        clear hb
        go_wp2_with (at_mapUpdate; refine wpList_mark rfl _ _ _ rfl rfl rfl rfl HMK.out HSK.out HNK.out ?_; intro w2 hm2 hg2)
        have HM2 : Hid (SetM w2 b (n + (k + 1)) (addL f (l.take (k + 1)))) := Lib.hid (hm2.congr HAL.out)
        have HG2 := Lib.hid (grownr_trans HG.out hg2)
        clear hm2 hg2 q0 hl2
        go_roundw
        case rel => exact ⟨k + 1, by go_num, HLT.out, by rw [HAN.out]; rfl, HM2.out, HG2.out⟩
        case measure => have := HLT.out; first | (simp [intOf]; done) | (simp [intOf]; omega)
    · obtain rfl : k = l.length := by omega
      rw [List.take_length] at HMK
      clear hm hg
      go_wp2
      go_ret
      exact ⟨rfl, HMK.out, HG.out⟩
theorem names_set {w w' : World} {b n : Nat} {f : ByteArray → Bool} (h : NamesAt w) (hm : SetM w b n f) (hg : w.grownBy w' (some b)) : NamesAt w' := h.keep (hg.block _ h.lt (fun e => by
  obtain ⟨t, fr, h1⟩ := h
  obtain ⟨o, h2, h3⟩ := hm.obj
  rw [Option.some.inj e, h2] at h1
  obtain rfl := Option.some.inj h1
  cases h3))
set_option maxHeartbeats 1600000 in
theorem impl_distinct (l : List ByteArray) (v : Value) (w : World) (hk : Is w (strsD l) v) (hs : ∀ s ∈ l, s.size ≤ maxLen) (hn : l.length ≤ 1048576) :
    Calls Tryd.prog 97 #[v] w fun e w' => e = .returned (.bool (!(twice l))) ∧ Below w.heap.size w w' := by
  have n1 := bl1 w (.map #[] 0)
  have HC := Lib.hid (impl_add w.heap.size 0 (fun _ => false) l v (w.alloc (.map #[] 0)) (SetM.made w) (hk.later n1) hs (by omega))
  unfold AddB at HC
  rw [newAt_twice] at HC
  obtain ⟨a, c, rfl⟩ := is_slice hk
  have hrm := @run_makeMap Tryd.prog
  clear hk hs n1
  go_enter Tryd.func97, Tryd.ntmps97
  go_wp2_with fail
  (with_reducible refine HC.out.mono ?_)
  rintro e w2 ⟨rfl, hm2, hg2⟩
  have HB : Hid (Below w.heap.size w w2) := Lib.hid ((bl1 w (.map #[] 0)).trans ((Below.refl w.heap.size _).grown hg2 (bl1 w (.map #[] 0)).size (fun k e => by cases e; exact Nat.le_refl _)))
  clear hm2 hg2 hrm
  go_wp2
  go_ret
  exact ⟨rfl, HB.out⟩
end Go.Proofs.YtbadepiakkhabaaDoor
/- The program: what declarations a program may have. No conditions. -/
namespace Go.Proofs.YtbadepiakkhabaaDoor
open Go.RowKit
set_option linter.unusedVariables false

theorem impl_wslot (s : ByteArray) (w : World) (hs : (s.size : Int) ≤ 1048576) : Calls Tryd.prog 100 #[.string s] w fun e w' => e = .returned (.bool (!(slotB s))) ∧ Below w.heap.size w w' := by
  obtain ⟨b, hb⟩ : ∃ b, nmB s = b := ⟨_, rfl⟩
  have HC := Lib.hid (fun W => impl_nm hb W hs)
  by_cases he : s.toList = []
  · rw [show slotB s = true by unfold slotB; rw [he]; rfl]
    have h2 : s.toList.isEmpty = true := by rw [he]; rfl
    clear he HC
    go_enter Tryd.func100, Tryd.ntmps100
    go_wp2
    go_ret
    exact ⟨rfl, Below.refl _ _⟩
  · have h2 : s.toList.isEmpty = false := by simp [he]
    rw [show slotB s = b by unfold slotB; rw [h2, hb]; rfl]
    clear he hb
    go_enter Tryd.func100, Tryd.ntmps100
    go_wp2_with fail
    (with_reducible refine (HC.out _).mono ?_)
    rintro e w1 ⟨rfl, b1⟩
    have B1 := Lib.hid b1
    clear b1
    go_wp2
    go_ret
    exact ⟨rfl, B1.out⟩
set_option maxHeartbeats 3200000 in
theorem index_slot (l : List ByteArray) (hb : ∀ x ∈ l, (x.size : Int) ≤ 1048576) (hln : l.length ≤ 1048576) (w : World) (v : Value) (hk : Is w (strsD l) v) : Calls Tryd.prog 127 #[v, .func (.func 100) #[] #[]] w fun e w' => (∃ n : Int, e = .returned (.int .i64 n) ∧ decide (0 ≤ n) = !(l.all slotB)) ∧ Below w.heap.size w w' := by
  obtain ⟨a, c, rfl⟩ := is_slice hk
  have HK := Lib.hid hk
  have HI := Lib.hid hb
  clear hk hb
  go_enter Tryd.func127, Tryd.ntmps127
  go_wp2
  go_loopw [5, 8] (fun _ i wr => ∃ k : Nat, i = .int .i64 k ∧ k ≤ l.length ∧ (l.take k).all slotB = true ∧ Below w.heap.size w wr) (fun _ i _ => l.length - (intOf i).toNat)
  case atStart => exact ⟨0, rfl, Nat.zero_le _, rfl, Below.refl _ _⟩
  case round =>
    obtain ⟨k, rfl, hk, hall, hb⟩ := hrel
    have HA := Lib.hid hall
    have HB := Lib.hid hb
    by_cases hlt : k < l.length
    · obtain ⟨g, o, rfl, q0⟩ := str_at (HK.out.later hb) k hlt
      have HC := Lib.hid (fun W (hW : Below wr.heap.size wr W) => impl_wslot l[k] W (by have := HI.out _ (List.getElem_mem hlt); omega))
      have HY := Lib.hid (fun h => all_take slotB l k hlt HA.out h)
      have HNO := Lib.hid (fun h => all_no slotB l k hlt h)
      have k0 : (0 : Int) ≤ k := by omega
      have k1' : (k : Int) < l.length := by omega
      clear hall hb
      generalize l[k] = x at q0 HC HY HNO
      cases hx : slotB x
      · rw [hx] at HC
        have HN := Lib.hid (HNO.out hx)
        clear HY HNO hx
        go_wp2_with fail
        refine (HC.out _ (Below.refl _ _)).mono ?_
        rintro e w1 ⟨rfl, b1⟩
        have B1 := Lib.hid (below_then HB.out b1)
        clear b1
        go_wp2
        go_ret
        exact ⟨⟨_, rfl, by rw [HN.out]; simp⟩, B1.out⟩
      · rw [hx] at HC
        have HN := Lib.hid (HY.out hx)
        clear HY HNO hx
        go_wp2_with fail
        refine (HC.out _ (Below.refl _ _)).mono ?_
        rintro e w1 ⟨rfl, b1⟩
        have B1 := Lib.hid (below_then HB.out b1)
        clear b1
        go_wp2
        go_roundw
        case rel => exact ⟨k + 1, by go_num, by omega, HN.out, B1.out⟩
        case measure => first | (simp [intOf]; done) | (simp [intOf]; omega)
    · obtain rfl : k = l.length := by omega
      have HN := Lib.hid (all_end _ _ hall)
      clear hall
      go_wp2
      go_ret
      exact ⟨⟨_, rfl, by rw [HN.out]; rfl⟩, hb⟩
theorem contains_slot (l : List ByteArray) (hb : ∀ x ∈ l, (x.size : Int) ≤ 1048576) (hln : l.length ≤ 1048576) (w : World) (v : Value) (hk : Is w (strsD l) v) : Calls Tryd.prog 99 #[v, .func (.func 100) #[] #[]] w fun e w' => e = .returned (.bool (!(l.all slotB))) ∧ Below w.heap.size w w' := by
  have HC := Lib.hid (index_slot l hb hln w v hk)
  obtain ⟨a, c, rfl⟩ := is_slice hk
  clear hb hk
  go_enter Tryd.func99, Tryd.ntmps99
  go_wp2_with fail
  refine HC.out.mono ?_
  rintro e w1 ⟨⟨n, rfl, hn⟩, b1⟩
  have HN := Lib.hid hn
  have B1 := Lib.hid b1
  clear hn b1
  go_wp2
  go_ret
  exact ⟨ret_eb HN.out.symm, B1.out⟩
set_option maxHeartbeats 1600000 in
theorem wro_many (r : Ro) (hb : r.bulk ≤ 1048576) (w : World) (v1 v2 : Value) (k1 : Is w (strsD r.slots) v1) (h : 24 < r.slots.length) : Calls Tryd.prog 68 #[roV r v1 v2] w fun e w' => e = .returned (.bool true) ∧ Below w.heap.size w w' := by
  have hbx := hb
  unfold Ro.bulk at hbx
  have K1 := Lib.hid k1
  obtain ⟨a1, c1, rfl⟩ := is_slice k1
  have hln : r.slots.length ≤ 1048576 := by unfold strsB at hbx; omega
  have hnm : (r.name.size : Int) ≤ 1048576 := by omega
  have HC := Lib.hid (fun W (hW : Below w.heap.size w W) => contains_slot r.slots (str_bound (by omega)) hln W _ (k1.later hW))
  have BA := Lib.hid (bl1 w (.cells #[.string r.name, .int .i64 r.params, .slice a1 r.slots.length c1, .int .i64 r.body.kind, .int .i64 r.body.op, .int .i64 r.body.num, .int .i64 r.body.line, .string r.body.text, v2] 70))
  have VA := Lib.hid (Var.new w #[.string r.name, .int .i64 r.params, .slice a1 r.slots.length c1, .int .i64 r.body.kind, .int .i64 r.body.op, .int .i64 r.body.num, .int .i64 r.body.line, .string r.body.text, v2] 70)
  clear hb hbx k1
  have t1 : decide (24 < r.slots.length) = true := decide_eq_true h
  go_enter Tryd.func68, Tryd.ntmps68
  go_wp2
  go_ret
  exact ⟨rfl, BA.out⟩
set_option maxHeartbeats 1600000 in
theorem wro_slot (r : Ro) (hb : r.bulk ≤ 1048576) (w : World) (v1 v2 : Value) (k1 : Is w (strsD r.slots) v1) (h : ¬ 24 < r.slots.length) (h2 : r.slots.all slotB = false) : Calls Tryd.prog 68 #[roV r v1 v2] w fun e w' => e = .returned (.bool true) ∧ Below w.heap.size w w' := by
  have hbx := hb
  unfold Ro.bulk at hbx
  have K1 := Lib.hid k1
  obtain ⟨a1, c1, rfl⟩ := is_slice k1
  have hln : r.slots.length ≤ 1048576 := by unfold strsB at hbx; omega
  have hnm : (r.name.size : Int) ≤ 1048576 := by omega
  have HC := Lib.hid (fun W (hW : Below w.heap.size w W) => contains_slot r.slots (str_bound (by omega)) hln W _ (k1.later hW))
  have BA := Lib.hid (bl1 w (.cells #[.string r.name, .int .i64 r.params, .slice a1 r.slots.length c1, .int .i64 r.body.kind, .int .i64 r.body.op, .int .i64 r.body.num, .int .i64 r.body.line, .string r.body.text, v2] 70))
  have VA := Lib.hid (Var.new w #[.string r.name, .int .i64 r.params, .slice a1 r.slots.length c1, .int .i64 r.body.kind, .int .i64 r.body.op, .int .i64 r.body.num, .int .i64 r.body.line, .string r.body.text, v2] 70)
  clear hb hbx k1
  have t1 : decide (24 < r.slots.length) = false := decide_eq_false h
  rw [h2] at HC
  clear h2
  go_enter Tryd.func68, Tryd.ntmps68
  go_wp2_with fail
  (with_reducible refine (HC.out _ BA.out).mono ?_)
  rintro e w1 ⟨rfl, b1⟩
  have B1 := Lib.hid (below_then BA.out b1)
  have V1 := Lib.hid (VA.out.later b1)
  have f0 := (V1.out 0 _ rfl).1
  have f1 := (V1.out 1 _ rfl).1
  have f2 := (V1.out 2 _ rfl).1
  clear b1
  go_wp2
  go_ret
  exact ⟨rfl, B1.out⟩
set_option maxHeartbeats 1600000 in
theorem wro_name (r : Ro) (hb : r.bulk ≤ 1048576) (w : World) (v1 v2 : Value) (k1 : Is w (strsD r.slots) v1) (h : ¬ 24 < r.slots.length) (h2 : r.slots.all slotB = true) (h3 : nmB r.name = false) : Calls Tryd.prog 68 #[roV r v1 v2] w fun e w' => e = .returned (.bool true) ∧ Below w.heap.size w w' := by
  have hbx := hb
  unfold Ro.bulk at hbx
  have K1 := Lib.hid k1
  obtain ⟨a1, c1, rfl⟩ := is_slice k1
  have hln : r.slots.length ≤ 1048576 := by unfold strsB at hbx; omega
  have hnm : (r.name.size : Int) ≤ 1048576 := by omega
  have HC := Lib.hid (fun W (hW : Below w.heap.size w W) => contains_slot r.slots (str_bound (by omega)) hln W _ (k1.later hW))
  have BA := Lib.hid (bl1 w (.cells #[.string r.name, .int .i64 r.params, .slice a1 r.slots.length c1, .int .i64 r.body.kind, .int .i64 r.body.op, .int .i64 r.body.num, .int .i64 r.body.line, .string r.body.text, v2] 70))
  have VA := Lib.hid (Var.new w #[.string r.name, .int .i64 r.params, .slice a1 r.slots.length c1, .int .i64 r.body.kind, .int .i64 r.body.op, .int .i64 r.body.num, .int .i64 r.body.line, .string r.body.text, v2] 70)
  clear hb hbx k1
  have t1 : decide (24 < r.slots.length) = false := decide_eq_false h
  rw [h2] at HC
  clear h2
  go_enter Tryd.func68, Tryd.ntmps68
  go_wp2_with fail
  (with_reducible refine (HC.out _ BA.out).mono ?_)
  rintro e w1 ⟨rfl, b1⟩
  have B1 := Lib.hid (below_then BA.out b1)
  have V1 := Lib.hid (VA.out.later b1)
  have f0 := (V1.out 0 _ rfl).1
  have f1 := (V1.out 1 _ rfl).1
  have f2 := (V1.out 2 _ rfl).1
  clear b1
  go_wp2_with fail
  (with_reducible refine (impl_nm h3 _ hnm).mono ?_)
  rintro e w2 ⟨rfl, b2⟩
  have B2 := Lib.hid (below_then B1.out b2)
  have V2 := Lib.hid (V1.out.later b2)
  clear b2 f0 f1 f2
  have f0 := (V2.out 0 _ rfl).1
  have f1 := (V2.out 1 _ rfl).1
  have f2 := (V2.out 2 _ rfl).1
  go_wp2
  go_ret
  exact ⟨rfl, B2.out⟩
set_option maxHeartbeats 1600000 in
theorem wro_par (r : Ro) (hb : r.bulk ≤ 1048576) (w : World) (v1 v2 : Value) (k1 : Is w (strsD r.slots) v1) (h : ¬ 24 < r.slots.length) (h2 : r.slots.all slotB = true) (h3 : nmB r.name = true) : Calls Tryd.prog 68 #[roV r v1 v2] w fun e w' => e = .returned (.bool (!(Co.inR r.params 0 r.slots.length))) ∧ Below w.heap.size w w' := by
  have hbx := hb
  unfold Ro.bulk at hbx
  have K1 := Lib.hid k1
  obtain ⟨a1, c1, rfl⟩ := is_slice k1
  have hln : r.slots.length ≤ 1048576 := by unfold strsB at hbx; omega
  have hnm : (r.name.size : Int) ≤ 1048576 := by omega
  have HC := Lib.hid (fun W (hW : Below w.heap.size w W) => contains_slot r.slots (str_bound (by omega)) hln W _ (k1.later hW))
  have BA := Lib.hid (bl1 w (.cells #[.string r.name, .int .i64 r.params, .slice a1 r.slots.length c1, .int .i64 r.body.kind, .int .i64 r.body.op, .int .i64 r.body.num, .int .i64 r.body.line, .string r.body.text, v2] 70))
  have VA := Lib.hid (Var.new w #[.string r.name, .int .i64 r.params, .slice a1 r.slots.length c1, .int .i64 r.body.kind, .int .i64 r.body.op, .int .i64 r.body.num, .int .i64 r.body.line, .string r.body.text, v2] 70)
  clear hb hbx k1
  have t1 : decide (24 < r.slots.length) = false := decide_eq_false h
  rw [h2] at HC
  by_cases h4 : r.params < 0
  · rw [show Co.inR r.params 0 r.slots.length = false from decide_eq_false (by omega)]
    clear h2
    go_enter Tryd.func68, Tryd.ntmps68
    go_wp2_with fail
    (with_reducible refine (HC.out _ BA.out).mono ?_)
    rintro e w1 ⟨rfl, b1⟩
    have B1 := Lib.hid (below_then BA.out b1)
    have V1 := Lib.hid (VA.out.later b1)
    have f0 := (V1.out 0 _ rfl).1
    have f1 := (V1.out 1 _ rfl).1
    have f2 := (V1.out 2 _ rfl).1
    clear b1
    go_wp2_with fail
    (with_reducible refine (impl_nm h3 _ hnm).mono ?_)
    rintro e w2 ⟨rfl, b2⟩
    have B2 := Lib.hid (below_then B1.out b2)
    have V2 := Lib.hid (V1.out.later b2)
    clear b2 f0 f1 f2
    have f0 := (V2.out 0 _ rfl).1
    have f1 := (V2.out 1 _ rfl).1
    have f2 := (V2.out 2 _ rfl).1
    go_wp2
    go_ret
    exact ⟨rfl, B2.out⟩
  · by_cases h5 : (r.slots.length : Int) < r.params
    · rw [show Co.inR r.params 0 r.slots.length = false from decide_eq_false (by omega)]
      clear h2
      go_enter Tryd.func68, Tryd.ntmps68
      go_wp2_with fail
      (with_reducible refine (HC.out _ BA.out).mono ?_)
      rintro e w1 ⟨rfl, b1⟩
      have B1 := Lib.hid (below_then BA.out b1)
      have V1 := Lib.hid (VA.out.later b1)
      have f0 := (V1.out 0 _ rfl).1
      have f1 := (V1.out 1 _ rfl).1
      have f2 := (V1.out 2 _ rfl).1
      clear b1
      go_wp2_with fail
      (with_reducible refine (impl_nm h3 _ hnm).mono ?_)
      rintro e w2 ⟨rfl, b2⟩
      have B2 := Lib.hid (below_then B1.out b2)
      have V2 := Lib.hid (V1.out.later b2)
      clear b2 f0 f1 f2
      have f0 := (V2.out 0 _ rfl).1
      have f1 := (V2.out 1 _ rfl).1
      have f2 := (V2.out 2 _ rfl).1
      go_wp2
      go_ret
      exact ⟨rfl, B2.out⟩
    · rw [show Co.inR r.params 0 r.slots.length = true from decide_eq_true (by omega)]
      clear h2
      go_enter Tryd.func68, Tryd.ntmps68
      go_wp2_with fail
      (with_reducible refine (HC.out _ BA.out).mono ?_)
      rintro e w1 ⟨rfl, b1⟩
      have B1 := Lib.hid (below_then BA.out b1)
      have V1 := Lib.hid (VA.out.later b1)
      have f0 := (V1.out 0 _ rfl).1
      have f1 := (V1.out 1 _ rfl).1
      have f2 := (V1.out 2 _ rfl).1
      clear b1
      go_wp2_with fail
      (with_reducible refine (impl_nm h3 _ hnm).mono ?_)
      rintro e w2 ⟨rfl, b2⟩
      have B2 := Lib.hid (below_then B1.out b2)
      have V2 := Lib.hid (V1.out.later b2)
      clear b2 f0 f1 f2
      have f0 := (V2.out 0 _ rfl).1
      have f1 := (V2.out 1 _ rfl).1
      have f2 := (V2.out 2 _ rfl).1
      go_wp2
      go_ret
      exact ⟨ret_eb (by rw [decide_eq_false (by omega), decide_eq_false (by omega)]; rfl), B2.out⟩
theorem impl_wro (r : Ro) (hb : r.bulk ≤ 1048576) (w : World) (v1 v2 : Value) (k1 : Is w (strsD r.slots) v1) : Calls Tryd.prog 68 #[roV r v1 v2] w fun e w' => e = .returned (.bool (!(r.head))) ∧ Below w.heap.size w w' := by
  by_cases h : 24 < r.slots.length
  · rw [show r.head = false by unfold Ro.head; rw [decide_eq_false (by omega)]; simp]
    exact wro_many r hb w v1 v2 k1 h
  cases h2 : r.slots.all slotB
  · rw [show r.head = false by unfold Ro.head; rw [h2]; simp]
    exact wro_slot r hb w v1 v2 k1 h h2
  cases h3 : nmB r.name
  · rw [show r.head = false by unfold Ro.head; rw [h3]; rfl]
    exact wro_name r hb w v1 v2 k1 h h2 h3
  rw [show r.head = Co.inR r.params 0 r.slots.length by unfold Ro.head; rw [h2, h3, decide_eq_true (by omega)]; simp]
  exact wro_par r hb w v1 v2 k1 h h2 h3
set_option maxHeartbeats 3200000 in
theorem index_ro (l : List Ro) (hb : ∀ x ∈ l, x.bulk ≤ 1048576) (hln : l.length ≤ 1048576) (w : World) (v : Value) (hk : Is w (routsD l) v) : Calls Tryd.prog 98 #[v, .func (.func 68) #[] #[]] w fun e w' => (∃ n : Int, e = .returned (.int .i64 n) ∧ decide (0 ≤ n) = !(l.all Ro.head)) ∧ Below w.heap.size w w' := by
  obtain ⟨a, c, rfl⟩ := is_slice hk
  have HK := Lib.hid hk
  have HI := Lib.hid hb
  clear hk hb
  go_enter Tryd.func98, Tryd.ntmps98
  go_wp2
  go_loopw [5, 8] (fun _ i wr => ∃ k : Nat, i = .int .i64 k ∧ k ≤ l.length ∧ (l.take k).all Ro.head = true ∧ Below w.heap.size w wr) (fun _ i _ => l.length - (intOf i).toNat)
  case atStart => exact ⟨0, rfl, Nat.zero_le _, rfl, Below.refl _ _⟩
  case round =>
    obtain ⟨k, rfl, hk, hall, hb⟩ := hrel
    have HA := Lib.hid hall
    have HB := Lib.hid hb
    by_cases hlt : k < l.length
    · obtain ⟨g, o, rfl, ⟨q0, q1, ⟨y1, q2, k1⟩, ⟨q3, q4, q5, q6, q7⟩, ⟨y2, q8, k2⟩⟩⟩ := rout_at (HK.out.later hb) k hlt
      have HC := Lib.hid (fun W (hW : Below wr.heap.size wr W) => impl_wro l[k] (HI.out _ (List.getElem_mem hlt)) W y1 y2 (k1.later hW))
      have HY := Lib.hid (fun h => all_take Ro.head l k hlt HA.out h)
      have HNO := Lib.hid (fun h => all_no Ro.head l k hlt h)
      have k0 : (0 : Int) ≤ k := by omega
      have k1' : (k : Int) < l.length := by omega
      clear hall hb
      obtain ⟨e1, d1, rfl⟩ := is_slice k1
      obtain ⟨e2, d2, rfl⟩ := Cr.kids_len k2
      clear k1 k2
      generalize l[k] = x at q0 q1 q2 q3 q4 q5 q6 q7 q8 HC HY HNO
      cases hx : Ro.head x
      · rw [hx] at HC
        have HN := Lib.hid (HNO.out hx)
        clear HY HNO hx
        go_wp2_with fail
        refine (HC.out _ (Below.refl _ _)).mono ?_
        rintro e w1 ⟨rfl, b1⟩
        have B1 := Lib.hid (below_then HB.out b1)
        clear b1
        go_wp2
        go_ret
        exact ⟨⟨_, rfl, by rw [HN.out]; simp⟩, B1.out⟩
      · rw [hx] at HC
        have HN := Lib.hid (HY.out hx)
        clear HY HNO hx
        go_wp2_with fail
        refine (HC.out _ (Below.refl _ _)).mono ?_
        rintro e w1 ⟨rfl, b1⟩
        have B1 := Lib.hid (below_then HB.out b1)
        clear b1
        go_wp2
        go_roundw
        case rel => exact ⟨k + 1, by go_num, by omega, HN.out, B1.out⟩
        case measure => first | (simp [intOf]; done) | (simp [intOf]; omega)
    · obtain rfl : k = l.length := by omega
      have HN := Lib.hid (all_end _ _ hall)
      clear hall
      go_wp2
      go_ret
      exact ⟨⟨_, rfl, by rw [HN.out]; rfl⟩, hb⟩
theorem contains_ro (l : List Ro) (hb : ∀ x ∈ l, x.bulk ≤ 1048576) (hln : l.length ≤ 1048576) (w : World) (v : Value) (hk : Is w (routsD l) v) : Calls Tryd.prog 67 #[v, .func (.func 68) #[] #[]] w fun e w' => e = .returned (.bool (!(l.all Ro.head))) ∧ Below w.heap.size w w' := by
  have HC := Lib.hid (index_ro l hb hln w v hk)
  obtain ⟨a, c, rfl⟩ := is_slice hk
  clear hb hk
  go_enter Tryd.func67, Tryd.ntmps67
  go_wp2_with fail
  refine HC.out.mono ?_
  rintro e w1 ⟨⟨n, rfl, hn⟩, b1⟩
  have HN := Lib.hid hn
  have B1 := Lib.hid b1
  clear hn b1
  go_wp2
  go_ret
  exact ⟨ret_eb HN.out.symm, B1.out⟩
theorem impl_wtype (x : Rc) (hb : x.bulk ≤ 1048576) (w : World) (y1 : Value) (k1 : Is w (strsD x.fields) y1) : Calls Tryd.prog 66 #[rcV x y1] w fun e w' => e = .returned (.bool (!x.fine)) ∧ Below w.heap.size w w' := by
  have hbx := hb
  unfold Rc.bulk at hbx
  have HW := Lib.hid (fun W (hW : Below w.heap.size w W) => impl_wrong_rec x hb W y1 (k1.later hW))
  have HD := Lib.hid (fun W (hW : Below w.heap.size w W) => impl_distinct x.fields y1 W (k1.later hW) (fun s hs => by have := str_bound (l := x.fields) (by omega) s hs; unfold maxLen; omega) (by unfold strsB at hbx; omega))
  obtain ⟨e1, d1, rfl⟩ := is_slice k1
  have BA := Lib.hid (bl1 w (.cells #[.string x.name, .slice e1 x.fields.length d1, .int .i64 x.line] 72))
  have VA := Lib.hid (Var.new w #[.string x.name, .slice e1 x.fields.length d1, .int .i64 x.line] 72)
  clear hb hbx k1
  cases hv : x.valid
  · rw [show x.fine = false by unfold Rc.valid at hv; unfold Rc.fine; revert hv; cases nmB x.name <;> cases nmOk x.fields 6 <;> cases decide (0 ≤ x.line) <;> simp]
    rw [hv] at HW
    clear hv
    go_enter Tryd.func66, Tryd.ntmps66
    go_wp2_with fail
    (with_reducible refine (HW.out _ BA.out).mono ?_)
    rintro e w1 ⟨rfl, b1⟩
    have B1 := Lib.hid (below_then BA.out b1)
    clear b1
    go_wp2
    go_ret
    exact ⟨rfl, B1.out⟩
  · rw [show x.fine = !(twice x.fields) by unfold Rc.valid at hv; unfold Rc.fine; revert hv; cases nmB x.name <;> cases nmOk x.fields 6 <;> cases decide (0 ≤ x.line) <;> simp]
    rw [hv] at HW
    generalize twice x.fields = tw at HD ⊢
    clear hv
    go_enter Tryd.func66, Tryd.ntmps66
    go_wp2_with fail
    (with_reducible refine (HW.out _ BA.out).mono ?_)
    rintro e w1 ⟨rfl, b1⟩
    have B1 := Lib.hid (below_then BA.out b1)
    have V1 := Lib.hid (VA.out.later b1)
    have f1 := (V1.out 1 _ rfl).1
    clear b1
    go_wp2_with fail
    (with_reducible refine (HD.out _ B1.out).mono ?_)
    rintro e w2 ⟨rfl, b2⟩
    have B2 := Lib.hid (below_then B1.out b2)
    clear b2
    go_wp2
    go_ret
    exact ⟨ret_eb (by simp), B2.out⟩
set_option maxHeartbeats 3200000 in
theorem index_type (l : List Rc) (hb : ∀ x ∈ l, x.bulk ≤ 1048576) (hln : l.length ≤ 1048576) (w : World) (v : Value) (hk : Is w (recsD l) v) : Calls Tryd.prog 95 #[v, .func (.func 66) #[] #[]] w fun e w' => (∃ n : Int, e = .returned (.int .i64 n) ∧ decide (0 ≤ n) = !(l.all Rc.fine)) ∧ Below w.heap.size w w' := by
  obtain ⟨a, c, rfl⟩ := is_slice hk
  have HK := Lib.hid hk
  have HI := Lib.hid hb
  clear hk hb
  go_enter Tryd.func95, Tryd.ntmps95
  go_wp2
  go_loopw [5, 8] (fun _ i wr => ∃ k : Nat, i = .int .i64 k ∧ k ≤ l.length ∧ (l.take k).all Rc.fine = true ∧ Below w.heap.size w wr) (fun _ i _ => l.length - (intOf i).toNat)
  case atStart => exact ⟨0, rfl, Nat.zero_le _, rfl, Below.refl _ _⟩
  case round =>
    obtain ⟨k, rfl, hk, hall, hb⟩ := hrel
    have HA := Lib.hid hall
    have HB := Lib.hid hb
    by_cases hlt : k < l.length
    · obtain ⟨g, o, rfl, ⟨q0, ⟨y1, q1, k1⟩, q2⟩⟩ := rec_at (HK.out.later hb) k hlt
      have HC := Lib.hid (fun W (hW : Below wr.heap.size wr W) => impl_wtype l[k] (HI.out _ (List.getElem_mem hlt)) W y1 (k1.later hW))
      have HY := Lib.hid (fun h => all_take Rc.fine l k hlt HA.out h)
      have HNO := Lib.hid (fun h => all_no Rc.fine l k hlt h)
      have k0 : (0 : Int) ≤ k := by omega
      have k1' : (k : Int) < l.length := by omega
      clear hall hb
      obtain ⟨e1, d1, rfl⟩ := is_slice k1
      clear k1
      generalize l[k] = x at q0 q1 q2 HC HY HNO
      cases hx : Rc.fine x
      · rw [hx] at HC
        have HN := Lib.hid (HNO.out hx)
        clear HY HNO hx
        go_wp2_with fail
        refine (HC.out _ (Below.refl _ _)).mono ?_
        rintro e w1 ⟨rfl, b1⟩
        have B1 := Lib.hid (below_then HB.out b1)
        clear b1
        go_wp2
        go_ret
        exact ⟨⟨_, rfl, by rw [HN.out]; simp⟩, B1.out⟩
      · rw [hx] at HC
        have HN := Lib.hid (HY.out hx)
        clear HY HNO hx
        go_wp2_with fail
        refine (HC.out _ (Below.refl _ _)).mono ?_
        rintro e w1 ⟨rfl, b1⟩
        have B1 := Lib.hid (below_then HB.out b1)
        clear b1
        go_wp2
        go_roundw
        case rel => exact ⟨k + 1, by go_num, by omega, HN.out, B1.out⟩
        case measure => first | (simp [intOf]; done) | (simp [intOf]; omega)
    · obtain rfl : k = l.length := by omega
      have HN := Lib.hid (all_end _ _ hall)
      clear hall
      go_wp2
      go_ret
      exact ⟨⟨_, rfl, by rw [HN.out]; rfl⟩, hb⟩
theorem contains_type (l : List Rc) (hb : ∀ x ∈ l, x.bulk ≤ 1048576) (hln : l.length ≤ 1048576) (w : World) (v : Value) (hk : Is w (recsD l) v) : Calls Tryd.prog 65 #[v, .func (.func 66) #[] #[]] w fun e w' => e = .returned (.bool (!(l.all Rc.fine))) ∧ Below w.heap.size w w' := by
  have HC := Lib.hid (index_type l hb hln w v hk)
  obtain ⟨a, c, rfl⟩ := is_slice hk
  clear hb hk
  go_enter Tryd.func65, Tryd.ntmps65
  go_wp2_with fail
  refine HC.out.mono ?_
  rintro e w1 ⟨⟨n, rfl, hn⟩, b1⟩
  have HN := Lib.hid hn
  have B1 := Lib.hid b1
  clear hn b1
  go_wp2
  go_ret
  exact ⟨ret_eb HN.out.symm, B1.out⟩
end Go.Proofs.YtbadepiakkhabaaDoor
