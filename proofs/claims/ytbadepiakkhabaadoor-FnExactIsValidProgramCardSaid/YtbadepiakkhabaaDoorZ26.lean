/- Joined texts: N27, U14, U15. No conditions besides those that each states. -/
import Derived.Deep.RegionLaw
import Derived.RangeFuncRecord
import Derived.Test.YtbadepiakkhabaaDoorZ15
import Derived.Test.YtbadepiakkhabaaDoorZ20
/- Appending a tree to a list of the call's own. No conditions. -/
namespace Go.Proofs.YtbadepiakkhabaaDoor
open Go.RowKit
set_option linter.unusedVariables false

theorem append_kid {B : Nat} {w : World} {v : Value} {n : Nat} {xs : List Value} (ty : TypeId) (hown : w.ownsRow B 105 5 v n xs) (ad : Addr) (c : Nat) (news : List Value) (hl : news.length = 5) (hnews : ∀ j u, news[j]? = some u → w.cell? (ad.add j) = some u) (h1 : ∀ u ∈ news, u.oneCell' = true) (hn : n ≤ 1048577) (hB : B ≤ w.heap.size) :
    ∃ v' w', (Builtin.append_ #[103, 103] ty #[v, .slice (some ad) 1 c]).run Tryd.prog w = .ok v' w' ∧ w'.ownsRow B 105 5 v' (n + 1) (xs ++ news) ∧ w.grownBy w' v.ownBlock ∧ ∃ g c', v' = .slice (some ⟨g, 0, none⟩) (n + 1) c' ∧ B ≤ g ∧ (v.ownBlock = some g ∨ w.heap.size ≤ g) := by
  obtain ⟨i0, hi, hz0, hz1, hz2⟩ := info_parts info_expr
  obtain ⟨v', w', hr, h2, h3, _⟩ := run_append_own (P := Tryd.prog) w B 103 ty 105 i0 (.agg #[.int .i64 0, .string ByteArray.empty, .int .i64 0, .int .i64 0, .slice none 0 0]) 5 64 Tryd.underlying103 hi hz0 hz1 hz2 rfl (by decide) v n xs hown ad 1 c news (by rw [hl]) hnews h1 (by unfold maxLen; omega) (by omega) hB
  refine ⟨v', w', hr, h2, h3, ?_⟩
  rcases hown.2 with ⟨rfl, hn0⟩ | ⟨g, cap, cur, rfl, hbg, hg, hnc, hcm, hcs, htake⟩
  · have hr2 := run_append_nil (P := Tryd.prog) w 103 ty 105 i0 _ Tryd.underlying103 hi hz0 ad 1 c news (by rw [hl, hz1]) hnews (by omega) (by omega) (by rw [hz2]; omega)
    rw [hr2] at hr
    injection hr with e1 e2
    subst hn0
    exact ⟨w.heap.size, _, e1.symm, hB, .inr (Nat.le_refl _)⟩
  · by_cases hroom : n + 1 ≤ cap
    · have hr2 := run_append_room (P := Tryd.prog) w 103 ty 105 i0 Tryd.underlying103 hi g n cap cur hg ad 1 c news (by rw [hl, hz1]) hnews h1 hroom (by rw [hl, hz1, hcs]; omega)
      rw [hr2] at hr
      injection hr with e1 e2
      exact ⟨g, _, e1.symm, hbg, .inl rfl⟩
    · have hr2 := run_append_grow (P := Tryd.prog) w 103 ty 105 i0 _ Tryd.underlying103 hi hz0 ⟨g, 0, none⟩ n cap xs (by rw [hown.1, hz1]) (fun j u h => hown.cells (g := g) rfl j u h) ad 1 c news (by rw [hl, hz1]) hnews (by omega) (by omega) (growslice_fits (by omega) (by rw [hz2]; omega))
      rw [hr2] at hr
      injection hr with e1 e2
      exact ⟨w.heap.size, _, e1.symm, hB, .inr (Nat.le_refl _)⟩
/-- A list that grows: its trees, their lists in blocks of their own. -/
def AppK (B : Nat) (w : World) (v : Value) (ld : List El) : Prop := w.ownsRow B 105 5 v ld.length (rowV ld) ∧ Els w ld ∧ (∀ b ∈ elsF ld, B ≤ b ∧ b < w.heap.size) ∧ ∀ g n c, v = .slice (some ⟨g, 0, none⟩) n c → g ∉ elsF ld
theorem AppK.nil (B : Nat) (w : World) : AppK B w (.slice none 0 0) [] := ⟨World.ownsRow_nil w B _ _, Els.nil _, (fun b h => by cases h), fun g n c _ h => by cases h⟩
theorem ownsRow_keep {B n : Nat} {w w1 : World} {v : Value} {xs : List Value} (h : w.ownsRow B 105 5 v n xs) (hb : ∀ b, v.ownBlock = some b → w1.heap[b]? = w.heap[b]?) : w1.ownsRow B 105 5 v n xs := by
  refine ⟨h.1, ?_⟩
  rcases h.2 with hn | ⟨g2, cap2, cur, rfl, hg, hgg, r⟩
  · exact .inl hn
  · exact .inr ⟨g2, cap2, cur, rfl, hg, by rw [hb g2 rfl]; exact hgg, r⟩
theorem ownBlock_lt {B n : Nat} {w : World} {v : Value} {xs : List Value} (h : w.ownsRow B 105 5 v n xs) {b : Nat} (hb : v.ownBlock = some b) : B ≤ b ∧ b < w.heap.size := by
  rcases h.2 with ⟨rfl, _⟩ | ⟨g2, cap2, cur, rfl, hg, hgg, r⟩
  · cases hb
  · cases hb; exact ⟨hg, (Array.getElem?_eq_some_iff.1 hgg).1⟩
theorem AppK.later {B : Nat} {w w1 : World} {v : Value} {ld : List El} (h : AppK B w v ld) (hb : Below w.heap.size w w1) : AppK B w1 v ld := by
  obtain ⟨h1, h2, h3, h4⟩ := h
  refine ⟨ownsRow_keep h1 fun b e => hb.block b (ownBlock_lt h1 e).2, h2.keep fun b hbF => hb.block b (h3 b hbF).2, fun b hbF => ?_, h4⟩
  have := h3 b hbF
  have := hb.size
  omega
theorem AppK.drew {B : Nat} {w : World} {v : Value} {ld : List El} (h : AppK B w v ld) : AppK B w.drew v ld := h.later ((Below.refl _ _).drew)
/-- What a list has once a tree is appended. -/
theorem AppK.push {B : Nat} {w w1 : World} {v v1 : Value} {ld : List El} {p : El} {g c : Nat} (h : AppK B w v ld) (hp : OwnK w p.2.1 p.1.kids p.2.2) (hF : ∀ b ∈ p.2.2, B ≤ b ∧ b < w.heap.size ∧ b ∉ elsF ld ∧ v.ownBlock ≠ some b)
    (hown : w1.ownsRow B 105 5 v1 (ld.length + 1) (rowV ld ++ rowV [p])) (hgr : w.grownBy w1 v.ownBlock) (hv : v1 = .slice (some ⟨g, 0, none⟩) (ld.length + 1) c) (hg : v.ownBlock = some g ∨ w.heap.size ≤ g) : AppK B w1 v1 (ld ++ [p]) := by
  obtain ⟨h1, h2, h3, h4⟩ := h
  have hbv : ∀ b ∈ elsF ld, v.ownBlock ≠ some b := fun b hb e => by
    rcases h1.2 with ⟨rfl, _⟩ | ⟨g2, cap2, cur, rfl, _⟩
    · cases e
    · cases e; exact h4 _ _ _ rfl hb
  refine ⟨by rw [List.length_append, rowV_app]; exact hown, ?_, fun b hb => ?_, fun g2 n2 c2 e hb => ?_⟩
  · refine (h2.keep fun b hb => hgr.block b (h3 b hb).2 fun e => hbv b hb e.symm).snoc (OwnK.keep _ (fun b hb => hgr.block b (hF b hb).2.1 fun e => (hF b hb).2.2.2 e.symm) hp) fun b hb hb2 => (hF b hb2).2.2.1 hb
  · have hs := hgr.size
    rw [elsF_snoc] at hb
    rcases List.mem_append.1 hb with hb | hb
    · have := h3 b hb; omega
    · have := hF b hb; omega
  · rw [hv] at e
    injection e with e1 e2 e3
    injection e1 with e1
    injection e1 with e1
    subst e1
    rw [elsF_snoc] at hb
    rcases List.mem_append.1 hb with hb | hb
    · rcases hg with hg | hg
      · exact hbv _ hb hg
      · have := h3 _ hb; omega
    · rcases hg with hg | hg
      · exact (hF _ hb).2.2.2 hg
      · have := hF _ hb; omega
theorem AppK.done {B : Nat} {w : World} {v : Value} {ld : List El} (h : AppK B w v ld) : ∃ F, OwnK w v (ld.map Prod.fst) F ∧ Foot B w F := by
  obtain ⟨h1, h2, h3, h4⟩ := h
  by_cases h0 : ld = []
  · subst h0
    refine ⟨[], ?_, fun b hb => by cases hb⟩
    rw [List.map_nil, OwnK]
    exact ⟨rfl, own_zero h1⟩
  · obtain ⟨g, c, rfl, hg, hr⟩ := own_some (fun h => h0 (List.length_eq_zero_iff.1 h)) h1
    refine ⟨_, ownK_els hr h2 (h4 _ _ _ rfl), fun b hb => ?_⟩
    have hl := hr.lt
    split at hb
    · cases hb
    · rcases List.mem_cons.1 hb with rfl | hb
      · exact ⟨hg, hl⟩
      · exact h3 b hb
theorem AppK.keep {B : Nat} {w w1 : World} {v : Value} {ld : List El} (h : AppK B w v ld) (hs : w.heap.size ≤ w1.heap.size) (hb : ∀ b, B ≤ b → b < w.heap.size → w1.heap[b]? = w.heap[b]?) : AppK B w1 v ld := by
  obtain ⟨h1, h2, h3, h4⟩ := h
  exact ⟨ownsRow_keep h1 fun b e => hb b (ownBlock_lt h1 e).1 (ownBlock_lt h1 e).2, h2.keep fun b hbF => hb b (h3 b hbF).1 (h3 b hbF).2, fun b hbF => ⟨(h3 b hbF).1, Nat.lt_of_lt_of_le (h3 b hbF).2 hs⟩, h4⟩
theorem AppK.set {B C : Nat} {w : World} {v : Value} {ld : List El} (h : AppK B w v ld) (hC : C < B) (o : Nat) (u : Value) : AppK B (w.setCell ⟨C, o, none⟩ u) v ld :=
  h.keep (by simp [World.setCell]) fun b hb _ => Below.heap_setCell w ⟨C, o, none⟩ u b (show b ≠ C by omega)
theorem AppK.slice {B : Nat} {w : World} {v : Value} {ld : List El} (h : AppK B w v ld) : ∃ a n c, v = .slice a n c := by
  rcases h.1.2 with ⟨rfl, _⟩ | ⟨g2, cap2, cur, rfl, _⟩
  · exact ⟨_, _, _, rfl⟩
  · exact ⟨_, _, _, rfl⟩
theorem FreeE.keep {w w' : World} {b : Nat} {k n l : Int} {t : ByteArray} {v : Value} (h : FreeE w b k t n l v) (hh : w'.heap[b]? = w.heap[b]?) : FreeE w' b k t n l v := by
  obtain ⟨⟨a0, a1, a2, a3, a4⟩, f0, f1, f2, f3, f4⟩ := h
  exact ⟨⟨(cell_keep hh 0).trans a0, (cell_keep hh 1).trans a1, (cell_keep hh 2).trans a2, (cell_keep hh 3).trans a3, (cell_keep hh 4).trans a4⟩, (World.frozen?_of_block (a := ⟨_, 0, none⟩) hh).trans f0, (World.frozen?_of_block (a := ⟨_, 1, none⟩) hh).trans f1, (World.frozen?_of_block (a := ⟨_, 2, none⟩) hh).trans f2, (World.frozen?_of_block (a := ⟨_, 3, none⟩) hh).trans f3, (World.frozen?_of_block (a := ⟨_, 4, none⟩) hh).trans f4⟩
theorem FreeE.fifth {w : World} {b : Nat} {k n l : Int} {t : ByteArray} {v : Value} (h : FreeE w b k t n l v) (u : Value) : FreeE (w.setCell ⟨b, 4, none⟩ u) b k t n l u := by
  obtain ⟨⟨a0, a1, a2, a3, a4⟩, f0, f1, f2, f3, f4⟩ := h
  refine ⟨⟨?_, ?_, ?_, ?_, ?_⟩, ?_, ?_, ?_, ?_, ?_⟩
  all_goals go_simp
theorem new_row (W : World) (t : Ex.T) (v : Value) (F : List Nat) : RowCells (W.alloc (.cells #[.int .i64 t.kind, .string t.text, .int .i64 t.num, .int .i64 t.line, v] 105)) W.heap.size 0 [(t, v, F)] := by
  have h := World.alloc_heap_new W (.cells #[.int .i64 t.kind, .string t.text, .int .i64 t.num, .int .i64 t.line, v] 105)
  have hr : RowE (W.alloc (.cells #[.int .i64 t.kind, .string t.text, .int .i64 t.num, .int .i64 t.line, v] 105)) W.heap.size 1 1 (rowV [(t, v, F)]) :=
    ⟨rfl, .inr ⟨W.heap.size, 1, _, rfl, Nat.zero_le _, h, Nat.le_refl _, by unfold maxLen; omega, rfl, rfl⟩⟩
  exact rowE_cells (l := [(t, v, F)]) rfl hr
theorem row_one {t : Ex.T} {a : Option Addr} {n c : Nat} {F : List Nat} : ∀ u ∈ rowV [(t, .slice a n c, F)], u.oneCell' = true := by
  intro u hu
  rw [rowV_cons] at hu
  simp only [List.mem_cons, rowV, List.flatMap_nil, List.not_mem_nil, or_false] at hu
  rcases hu with rfl | rfl | rfl | rfl | rfl <;> rfl
theorem step_append_kid {B : Nat} {w : World} {v : Value} {n : Nat} {xs : List Value} {ops : Array Oper} {o : Oper} {a : Act} {K : Act → World → Prop} {Q : Exit → Act → World → Prop} {E : Prop} (hgd : o.guard = none) (s x : Operand)
    (ho : o.op = .call { callee := .builtin .append, args := #[s, x], argTypes := #[103, 103] }) (hs : a.eval s = v) (hown : w.ownsRow B 105 5 v n xs) (ad : Addr) (c : Nat) (news : List Value) (hx : a.eval x = .slice (some ad) 1 c) (hl : news.length = 5) (hnews : ∀ j u, news[j]? = some u → w.cell? (ad.add j) = some u) (h1 : ∀ u ∈ news, u.oneCell' = true) (hn : n ≤ 1048577) (hB : B ≤ w.heap.size)
    (h : ∀ w' g c', w'.ownsRow B 105 5 (.slice (some ⟨g, 0, none⟩) (n + 1) c') (n + 1) (xs ++ news) → w.grownBy w' v.ownBlock → B ≤ g → (v.ownBlock = some g ∨ w.heap.size ≤ g) → K (a.put o.dst (.slice (some ⟨g, 0, none⟩) (n + 1) c')) w') :
    if Region.wanted o (yielded ops a.tmps) = true then Oper.wp Tryd.prog o a w K Q else E := by
  have hw : Region.wanted o (yielded ops a.tmps) = true := by simp [Region.wanted, hgd]
  rw [if_pos hw]
  obtain ⟨v', w', hr, h2, h3, g, c', rfl, h4, h5⟩ := append_kid o.type hown ad c news hl hnews h1 hn hB
  unfold Oper.wp execOp
  simp only [ho, resolve, invoke, builtin, Sem.run_bind, Sem.run_pure, Result.andThen_ok, List.map_toArray, List.map_cons, List.map_nil, hs, hx, hr]
  exact h w' g c' h2 h3 h4 h5
end Go.Proofs.YtbadepiakkhabaaDoor
/- slices.Clone, append to an empty slice, rows of structs that grow. No conditions. -/
namespace Go.Proofs.YtbadepiakkhabaaDoor
open Go.RowKit
set_option linter.unusedVariables false

def D.real : D → Prop
  | .any => False
  | _ => True
theorem is_one {w : World} {d : D} {u : Value} (h : Is w d u) (hr : d.real) : u.oneCell' = true := by
  cases d with
  | int n => rw [Is] at h; subst h; rfl
  | bool b => rw [Is] at h; subst h; rfl
  | str s => rw [Is] at h; subst h; rfl
  | ex ks => rw [Is] at h; obtain ⟨a, c, rfl⟩ := kids_len h; rfl
  | cor ks => rw [Is] at h; obtain ⟨a, c, rfl⟩ := Cr.kids_len h; rfl
  | any => exact absurd hr id
  | row n l => obtain ⟨a, c, rfl⟩ := is_slice h; rfl
/-- The values of a row's cells. -/
theorem isAll_vals {w : World} {g : Nat} : ∀ {l : List D} {o : Nat}, IsAll w g o l → (∀ d ∈ l, d.real) → ∃ us : List Value, us.length = l.length ∧ (∀ (j : Nat) (u : Value), us[j]? = some u → w.cell? ((⟨g, o, none⟩ : Addr).add j) = some u) ∧ (∀ u ∈ us, u.oneCell' = true) ∧ ∀ (j : Nat) (d : D), l[j]? = some d → ∃ u, us[j]? = some u ∧ Is w d u := by
  intro l
  induction l with
  | nil => intro o _ _; exact ⟨[], rfl, (fun j u h => by simp at h), (fun u h => by cases h), fun j d h => by simp at h⟩
  | cons x r ih =>
    intro o h hr
    rw [IsAll] at h
    obtain ⟨⟨u0, hu0, hd0⟩, hrest⟩ := h
    obtain ⟨us, h1, h2, h3, h4⟩ := ih hrest fun d hd => hr d (List.mem_cons_of_mem _ hd)
    refine ⟨u0 :: us, by simp [h1], fun j u hj => ?_, fun u hu => ?_, fun j d hj => ?_⟩
    · match j with
      | 0 =>
        obtain rfl := Option.some.inj hj
        rw [add_lit]; exact hu0
      | j + 1 =>
        have h5 := h2 j u hj
        rw [add_lit] at h5 ⊢
        rw [show o + (j + 1) = o + 1 + j by omega]; exact h5
    · rcases List.mem_cons.1 hu with rfl | hu
      · exact is_one hd0 (hr x List.mem_cons_self)
      · exact h3 u hu
    · match j with
      | 0 => obtain rfl := Option.some.inj hj; exact ⟨u0, rfl, hd0⟩
      | j + 1 => exact h4 j d hj
theorem row_vals {w : World} {n c : Nat} {a : Option Addr} {l : List D} (h : Is w (.row n l) (.slice a n c)) (hl : l ≠ []) (hr : ∀ d ∈ l, d.real) : ∃ (g o : Nat) (us : List Value), a = some ⟨g, o, none⟩ ∧ us.length = l.length ∧ (∀ (j : Nat) (u : Value), us[j]? = some u → w.cell? ((⟨g, o, none⟩ : Addr).add j) = some u) ∧ (∀ u ∈ us, u.oneCell' = true) ∧ ∀ (j : Nat) (d : D), l[j]? = some d → ∃ u, us[j]? = some u ∧ Is w d u := by
  rw [Is] at h
  obtain ⟨a2, c2, e, h⟩ := h
  injection e with e1 e2 e3
  subst e1
  rcases h with h | ⟨_, g, o, e4, h⟩
  · exact absurd h hl
  · obtain ⟨us, h1, h2, h3, h4⟩ := isAll_vals h hr
    exact ⟨g, o, us, e4, h1, h2, h3, h4⟩
/-- A new row whose cells are there, whatever they hold. -/
def AnyRow (z n B : Nat) (w : World) (v : Value) : Prop := (n = 0 ∧ ∃ a c, v = .slice a 0 c) ∨ (n ≠ 0 ∧ ∃ g c, v = .slice (some ⟨g, 0, none⟩) n c ∧ (n ≤ c ∧ B ≤ g) ∧ RowD w g 0 (List.replicate (n * z) D.any) (List.replicate (n * z) []) ∧ g < w.heap.size)
theorem flat_any (z n : Nat) : ((List.replicate n ()).flatMap fun _ => List.replicate z D.any) = List.replicate (n * z) D.any := by
  induction n with
  | zero => simp
  | succ n ih => rw [List.replicate_succ, List.flatMap_cons, ih, Nat.succ_mul, Nat.add_comm (n * z) z, ← List.replicate_append_replicate]
theorem anyRow_of {w : World} {B z n : Nat} {T : TypeId} {v : Value} {xs : List Value} (h : w.ownsRow B T z v n xs) : AnyRow z n B w v := by
  by_cases h0 : n = 0
  · subst h0
    rcases h.2 with ⟨rfl, _⟩ | ⟨g, cap, cur, rfl, _⟩
    · exact .inl ⟨rfl, _, _, rfl⟩
    · exact .inl ⟨rfl, _, _, rfl⟩
  · rcases id h.2 with ⟨_, hn⟩ | ⟨g, cap, cur, rfl, hb, _, hcap, _⟩
    · exact absurd hn h0
    · have hfl : (List.replicate (n * z) ([] : List Nat)).flatten = [] := by simp
      refine .inr ⟨h0, g, cap, rfl, ⟨hcap, hb⟩, ⟨⟨by rw [hfl]; exact List.not_mem_nil, pairwise_of fun i j F G _ hi hj b hb2 => ?_⟩, by simp, fun j d hj => ?_⟩, (World.ownsRow.lt h g rfl).2⟩
      · obtain ⟨_, rfl⟩ := List.mem_replicate.1 (List.mem_of_getElem? hi)
        cases hb2
      · have hjl : j < n * z := by have := (List.getElem?_eq_some_iff.1 hj).1; simpa using this
        have hd : d = .any := by
          have := List.mem_of_getElem? hj
          exact (List.mem_replicate.1 this).2
        subst hd
        have hxl : j < xs.length := by rw [h.1]; exact hjl
        refine ⟨xs[j], [], by rw [List.getElem?_replicate, if_pos hjl], ?_, World.ownsRow.frozenAt h _, by rw [Own]⟩
        rw [Nat.zero_add, World.ownsRow.cellAt h j hjl, List.getElem?_eq_getElem hxl]
theorem FillD.any {α : Type} {f : α → List D} {w w1 : World} {g z c : Nat} {xs : List α} (h : RowD w1 g 0 (List.replicate (xs.length * z) D.any) (List.replicate (xs.length * z) [])) (hg : g < w1.heap.size) (hb : Below w.heap.size w w1) : FillD f (List.replicate z D.any) w g xs 0 w1 := by
  rw [FillD, List.take_zero, List.flatMap_nil, List.nil_append, Nat.sub_zero, flat_any]
  exact ⟨_, h, fun b hb2 => by simp at hb2, hg, hb⟩
def RetAny (z n : Nat) (w : World) (e : Ending) (w' : World) : Prop := ∃ v', e = .returned v' ∧ AnyRow z n w.heap.size w' v' ∧ Below w.heap.size w w'

theorem rc_real : ∀ (l : List Rc), ∀ d ∈ l.flatMap Rc.ds, d.real := by
  intro l d hd
  obtain ⟨r, _, hd⟩ := List.mem_flatMap.1 hd
  simp only [Rc.ds, List.mem_cons, List.not_mem_nil, or_false] at hd
  rcases hd with rfl | rfl | rfl <;> trivial
theorem pc_real : ∀ (l : List Pc), ∀ d ∈ l.flatMap Pc.ds, d.real := by
  intro l d hd
  obtain ⟨r, _, hd⟩ := List.mem_flatMap.1 hd
  simp only [Pc.ds, List.mem_cons, List.not_mem_nil, or_false] at hd
  rcases hd with rfl | rfl | rfl | rfl | rfl | rfl | rfl | rfl | rfl <;> trivial
theorem str_real : ∀ (l : List ByteArray), ∀ d ∈ l.map D.str, d.real := by
  intro l d hd
  obtain ⟨s, _, rfl⟩ := List.mem_map.1 hd
  trivial

set_option maxRecDepth 100000 in
set_option maxHeartbeats 1600000 in
theorem clone_str (v : Value) (l : List ByteArray) (w : World) (hk : Is w (.row l.length (l.map D.str)) v) (hl : l.length ≤ 1048576) :
    Calls Tryd.prog 79 #[v] w (RetAny 1 l.length w) := by
  obtain ⟨i0, hi, hz0, hz1, hz2⟩ := info_parts info_string
  have hnil : ∀ W (ad : Addr) n c, (binOp .eql 35 (.slice (some ad) n c) (.slice none 0 0)).run Tryd.prog W = .ok (.bool false) W := fun W ad n c => Lib.run_eql_slice_nil W _ _ (some ad) n c 0 0 Tryd.underlying35
  have hnil0 : ∀ W c, (binOp .eql 35 (.slice none 0 c) (.slice none 0 0)).run Tryd.prog W = .ok (.bool true) W := fun W c => Lib.run_eql_slice_nil W _ _ none 0 c 0 0 Tryd.underlying35
  obtain ⟨a, c, rfl⟩ := is_slice hk
  by_cases h0 : l = []
  · subst h0
    rw [List.length_nil]
    have HO := Lib.hid (World.ownsRow_made (e := 9) (size := 1) w #[] 0 (Nat.le_refl _) (by unfold maxLen; omega) rfl)
    clear hk hl
    cases a with
    | none =>
      clear hi hz0 hz1 hz2
      go_enter Tryd.func79, Tryd.ntmps79
      go_wp2
      go_ret
      exact ⟨_, rfl, .inl ⟨rfl, _, _, rfl⟩, Below.refl _ _⟩
    | some ad =>
      go_enter Tryd.func79, Tryd.ntmps79
      go_wp2_with (at_builtin; refine wpList_append_own _ rfl _ _ 35 rfl w.heap.size 9 i0 (.string ByteArray.empty) 1 16 Tryd.underlying35 hi hz0 hz1 hz2 rfl (by decide) _ _ _ rfl HO.out ad 0 c [] rfl rfl (by simp) (by simp) (by unfold maxLen; omega) (by omega) (by simp) ?_; intro v' w1 hown1 hgr1 hnn)
      go_ret
      exact ⟨_, rfl, anyRow_of hown1, (bl1 w _).grown hgr1 (bl1 w (.cells #[] 9)).size (fun k e => by cases e; exact Nat.le_refl _)⟩
  · have hne : (l.map D.str) ≠ [] := by simpa using h0
    obtain ⟨g, o, us, rfl, hul, hus, hone, _⟩ := row_vals (hk.later (bl1 w (.cells #[] 9))) hne (str_real l)
    have HUL : Hid (us.length = l.length * 1) := Lib.hid (by rw [hul]; simp [List.length_map])
    have HUS := Lib.hid hus
    have HONE := Lib.hid hone
    have HO := Lib.hid (World.ownsRow_made (e := 9) (size := 1) w #[] 0 (Nat.le_refl _) (by unfold maxLen; omega) rfl)
    clear hk hul hus hone hne
    go_enter Tryd.func79, Tryd.ntmps79
    go_wp2_with (at_builtin; refine wpList_append_own _ rfl _ _ 35 rfl w.heap.size 9 i0 (.string ByteArray.empty) 1 16 Tryd.underlying35 hi hz0 hz1 hz2 rfl (by decide) _ _ _ rfl HO.out ⟨g, o, none⟩ l.length c us rfl HUL.out HUS.out HONE.out (by unfold maxLen; omega) (by omega) (by simp) ?_; intro v' w1 hown1 hgr1 hnn)
    go_ret
    have h5 := anyRow_of hown1
    rw [Nat.zero_add] at h5
    exact ⟨_, rfl, h5, (bl1 w _).grown hgr1 (bl1 w (.cells #[] 9)).size (fun k e => by cases e; exact Nat.le_refl _)⟩
/-- append(empty, list...) of strings: a list of its own. -/
theorem append_empty (ty : TypeId) (ad : Addr) (x : Value) (l : List ByteArray) (w : World) (hx : Is w (strsD l) x) (hl : l.length ≤ 1048576) :
    ∃ v' w' F, (Builtin.append_ #[35, 35] ty #[.slice (some ad) 0 0, x]).run Tryd.prog w = .ok v' w' ∧ Own w' (strsD l) v' F ∧ Foot w.heap.size w' F ∧ Below w.heap.size w w' := by
  obtain ⟨i0, hi, hz0, hz1, hz2⟩ := info_parts info_string
  obtain ⟨a, c, rfl⟩ := is_slice hx
  by_cases h0 : l = []
  · subst h0
    refine ⟨.slice (some ad) 0 0, w, [], ?_, own_nil, (fun b hb => by cases hb), Below.refl _ _⟩
    cases a with
    | none => simp [Builtin.append_, run_underlying Tryd.underlying35, sizeOf, typeInfo, hi, Builtin.lenOf, Builtin.firstCells, storeCells]
    | some ad2 =>
      have hf := run_firstCells_some (P := Tryd.prog) w i0.size 0 ad2 0 c [] (by simp) (by simp)
      simp [Builtin.append_, run_underlying Tryd.underlying35, sizeOf, typeInfo, hi, Builtin.lenOf, hf, storeCells]
  · obtain ⟨g, o, us, rfl, hul, hus, hone, hd⟩ := row_vals hx (by simpa using h0) (str_real l)
    have hul2 : us.length = l.length := by rw [hul, List.length_map]
    have hpos := List.length_pos_iff.2 h0
    have hvals : us = l.map Value.string := by
      apply List.ext_getElem?
      intro j
      by_cases hj : j < l.length
      · obtain ⟨u, hu, hI⟩ := hd j (.str l[j]) (by rw [List.getElem?_map, List.getElem?_eq_getElem hj]; rfl)
        rw [hu, is_str hI, List.getElem?_map, List.getElem?_eq_getElem hj]; rfl
      · rw [List.getElem?_eq_none (by omega), List.getElem?_eq_none (by rw [List.length_map]; omega)]
    obtain ⟨v', w', hr, hown, hgr, _⟩ := run_append_own (P := Tryd.prog) w w.heap.size 35 ty 9 i0 (.string ByteArray.empty) 1 16 Tryd.underlying35 hi hz0 hz1 hz2 rfl (by decide) (.slice none 0 0) 0 [] (World.ownsRow_nil w _ _ _) ⟨g, o, none⟩ l.length c us (by omega) hus hone (by unfold maxLen; omega) (by omega) (Nat.le_refl _)
    have e1 := run_append_nil (P := Tryd.prog) w 35 ty 9 i0 (.string ByteArray.empty) Tryd.underlying35 hi hz0 ⟨g, o, none⟩ l.length c us (by rw [hz1]; omega) hus hpos (by omega) (by rw [hz2]; omega)
    have e2 := run_append_grow (P := Tryd.prog) w 35 ty 9 i0 (.string ByteArray.empty) Tryd.underlying35 hi hz0 ad 0 0 [] (by simp) (by simp) ⟨g, o, none⟩ l.length c us (by rw [hz1]; omega) hus (by omega) (by omega) (growslice_fits (by omega) (by rw [hz2]; omega))
    rw [e1] at hr
    injection hr with h1 h2
    refine ⟨v', w', ?_⟩
    rw [Nat.zero_add, List.nil_append, hvals] at hown
    obtain ⟨F, hF1, hF2⟩ := own_of_owns (l := l) hown
    refine ⟨F, ?_, hF1, hF2, (Below.refl _ _).grown hgr (Nat.le_refl _) (fun k e => by cases e)⟩
    rw [e2, ← h1, ← h2]
    simp
theorem step_append_strs {w : World} {l : List ByteArray} {ad : Addr} {x : Value} {ops : Array Oper} {o : Oper} {a : Act} {K : Act → World → Prop} {Q : Exit → Act → World → Prop} {E : Prop} (hgd : o.guard = none) (s y : Operand)
    (ho : o.op = .call { callee := .builtin .append, args := #[s, y], argTypes := #[35, 35] }) (hs : a.eval s = .slice (some ad) 0 0) (hy : a.eval y = x) (hx : Is w (strsD l) x) (hl : l.length ≤ 1048576)
    (h : ∀ w' v' F, Own w' (strsD l) v' F → Foot w.heap.size w' F → Below w.heap.size w w' → K (a.put o.dst v') w') :
    if Region.wanted o (yielded ops a.tmps) = true then Oper.wp Tryd.prog o a w K Q else E := by
  have hw : Region.wanted o (yielded ops a.tmps) = true := by simp [Region.wanted, hgd]
  rw [if_pos hw]
  obtain ⟨v', w', F, hr, h2, h3, h4⟩ := append_empty o.type ad x l w hx hl
  unfold Oper.wp execOp
  simp only [ho, resolve, invoke, builtin, Sem.run_bind, Sem.run_pure, Result.andThen_ok, List.map_toArray, List.map_cons, List.map_nil, hs, hy, hr]
  exact h w' v' F h2 h3 h4

end Go.Proofs.YtbadepiakkhabaaDoor
/- Rows of structs that grow by append. No conditions. -/
namespace Go.Proofs.YtbadepiakkhabaaDoor
open Go.RowKit
set_option linter.unusedVariables false

/-- A row that grows: its cells, their slices in blocks of their own. -/
def AppD (B : Nat) (w : World) (T : TypeId) (z : Nat) (v : Value) (n : Nat) (l : List D) (Fs : List (List Nat)) : Prop := (∃ xs : List Value, w.ownsRow B T z v n xs ∧ xs.length = l.length ∧ ∀ (j : Nat) (d : D), l[j]? = some d → ∃ (u : Value) (G : List Nat), Fs[j]? = some G ∧ xs[j]? = some u ∧ Own w d u G) ∧ (Fs.length = l.length ∧ Fs.Pairwise Apart) ∧ (∀ b ∈ Fs.flatten, B ≤ b ∧ b < w.heap.size) ∧ ∀ g, v.ownBlock = some g → g ∉ Fs.flatten
theorem AppD.nil (B : Nat) (w : World) (T : TypeId) (z : Nat) : AppD B w T z (.slice none 0 0) 0 [] [] := ⟨⟨[], World.ownsRow_nil w B _ _, rfl, fun j d h => by simp at h⟩, ⟨rfl, List.Pairwise.nil⟩, (fun b h => by simp at h), fun g h => by cases h⟩
theorem row_keep {B n z : Nat} {T : TypeId} {w w1 : World} {v : Value} {xs : List Value} (h : w.ownsRow B T z v n xs) (hb : ∀ b, v.ownBlock = some b → w1.heap[b]? = w.heap[b]?) : w1.ownsRow B T z v n xs := by
  refine ⟨h.1, ?_⟩
  rcases h.2 with hn | ⟨g2, cap2, cur, rfl, hg, hgg, r⟩
  · exact .inl hn
  · exact .inr ⟨g2, cap2, cur, rfl, hg, by rw [hb g2 rfl]; exact hgg, r⟩
theorem row_lt {B n z : Nat} {T : TypeId} {w : World} {v : Value} {xs : List Value} (h : w.ownsRow B T z v n xs) {b : Nat} (hb : v.ownBlock = some b) : B ≤ b ∧ b < w.heap.size := World.ownsRow.lt h b hb
theorem AppD.keep {B : Nat} {w w1 : World} {T : TypeId} {z n : Nat} {v : Value} {l : List D} {Fs : List (List Nat)} (h : AppD B w T z v n l Fs) (hs : w.heap.size ≤ w1.heap.size) (hb : ∀ b, B ≤ b → b < w.heap.size → w1.heap[b]? = w.heap[b]?) : AppD B w1 T z v n l Fs := by
  obtain ⟨⟨xs, h1, h2, h3⟩, h4, h5, h6⟩ := h
  refine ⟨⟨xs, row_keep h1 fun b e => hb b (row_lt h1 e).1 (row_lt h1 e).2, h2, fun j d hj => ?_⟩, h4, fun b hF => ⟨(h5 b hF).1, Nat.lt_of_lt_of_le (h5 b hF).2 hs⟩, h6⟩
  obtain ⟨u, G, e, hu, ho⟩ := h3 j d hj
  exact ⟨u, G, e, hu, Own.keep d u G (fun b hbG => hb b (h5 b (mem_at e hbG)).1 (h5 b (mem_at e hbG)).2) ho⟩
theorem AppD.later {B : Nat} {w w1 : World} {T : TypeId} {z n : Nat} {v : Value} {l : List D} {Fs : List (List Nat)} (h : AppD B w T z v n l Fs) (hb : Below w.heap.size w w1) : AppD B w1 T z v n l Fs := h.keep hb.size fun b _ hlt => hb.block b hlt
theorem AppD.set {B C : Nat} {w : World} {T : TypeId} {z n : Nat} {v : Value} {l : List D} {Fs : List (List Nat)} (h : AppD B w T z v n l Fs) (hC : C < B) (o : Nat) (u : Value) : AppD B (w.setCell ⟨C, o, none⟩ u) T z v n l Fs := h.keep (by simp [World.setCell]) fun b hb _ => Below.heap_setCell w ⟨C, o, none⟩ u b (show b ≠ C by omega)
theorem AppD.slice {B : Nat} {w : World} {T : TypeId} {z n : Nat} {v : Value} {l : List D} {Fs : List (List Nat)} (h : AppD B w T z v n l Fs) : ∃ a n c, v = .slice a n c := by
  rcases h.1.choose_spec.1.2 with ⟨rfl, _⟩ | ⟨g2, cap2, cur, rfl, _⟩
  · exact ⟨_, _, _, rfl⟩
  · exact ⟨_, _, _, rfl⟩
theorem AppD.done {B : Nat} {w : World} {T : TypeId} {z n : Nat} {v : Value} {l : List D} {Fs : List (List Nat)} (h : AppD B w T z v n l Fs) (hz : 0 < z) : ∃ F, Own w (.row n l) v F ∧ Foot B w F := by
  obtain ⟨⟨xs, h1, h2, h3⟩, ⟨h4, h4'⟩, h5, h6⟩ := h
  by_cases h0 : l = []
  · subst h0
    have hn : n = 0 := by
      have e := h1.1
      rw [h2] at e
      rcases Nat.mul_eq_zero.1 e.symm with h | h
      · exact h
      · omega
    subst hn
    rcases h1.2 with ⟨rfl, _⟩ | ⟨g, cap, cur, rfl, _⟩
    · exact ⟨[], own_nil, fun b hb => by cases hb⟩
    · exact ⟨[], own_nil, fun b hb => by cases hb⟩
  · have hxl := h1.1
    rcases id h1.2 with ⟨_, hn⟩ | ⟨g, cap, cur, rfl, hg, _, hcap, _⟩
    · subst hn
      rw [Nat.zero_mul, h2] at hxl
      exact absurd (List.length_eq_zero_iff.1 hxl) h0
    · have hr : RowD w g 0 l Fs := ⟨⟨h6 g rfl, h4'⟩, h4, fun j d hj => by
        obtain ⟨u, G, e, hu, ho⟩ := h3 j d hj
        have hjl : j < n * z := by rw [← hxl]; exact (List.getElem?_eq_some_iff.1 hu).1
        refine ⟨u, G, e, ?_, World.ownsRow.frozenAt h1 _, ho⟩
        rw [Nat.zero_add, World.ownsRow.cellAt h1 j hjl, hu]⟩
      refine ⟨_, own_of_rowD hr h0 hcap, fun b hb => ?_⟩
      rcases List.mem_cons.1 hb with rfl | hb
      · exact ⟨hg, (row_lt h1 rfl).2⟩
      · exact h5 b hb
/-- What append does to a row of its own. -/
theorem append_row {B : Nat} {w : World} {v : Value} {n z by' : Nat} {S E : TypeId} {i0 : TypeInfo} {zv : Value} (hS : Tryd.prog.underlying S = some (.slice E)) (hi : Tryd.prog.info? E = some i0) (hz0 : i0.zero = some zv) (hz1 : i0.size = z) (hz2 : i0.bytes = by') (hzc : zv.cells.size = z) (hzp : 0 < z) (hby : by' ≤ 256) {xs : List Value} (ty : TypeId) (hown : w.ownsRow B E z v n xs) (ad : Addr) (c : Nat) (news : List Value) (hl : news.length = z) (hnews : ∀ j u, news[j]? = some u → w.cell? (ad.add j) = some u) (h1 : ∀ u ∈ news, u.oneCell' = true) (hn : n ≤ 1048577) (hB : B ≤ w.heap.size) :
    ∃ v' w', (Builtin.append_ #[S, S] ty #[v, .slice (some ad) 1 c]).run Tryd.prog w = .ok v' w' ∧ w'.ownsRow B E z v' (n + 1) (xs ++ news) ∧ w.grownBy w' v.ownBlock ∧ ∃ g c', v' = .slice (some ⟨g, 0, none⟩) (n + 1) c' ∧ B ≤ g ∧ (v.ownBlock = some g ∨ w.heap.size ≤ g) := by
  have hbb : (n + 1) * by' ≤ 140737488355328 := Nat.le_trans (Nat.mul_le_mul (by omega : n + 1 ≤ 1048578) hby) (by decide)
  obtain ⟨v', w', hr, h2, h3, _⟩ := run_append_own (P := Tryd.prog) w B S ty E i0 zv z by' hS hi hz0 hz1 hz2 hzc hzp v n xs hown ad 1 c news (by rw [hl]; omega) hnews h1 (by unfold maxLen; omega) hbb hB
  refine ⟨v', w', hr, h2, h3, ?_⟩
  rcases hown.2 with ⟨rfl, hn0⟩ | ⟨g, cap, cur, rfl, hbg, hg, hnc, hcm, hcs, htake⟩
  · have hr2 := run_append_nil (P := Tryd.prog) w S ty E i0 _ hS hi hz0 ad 1 c news (by rw [hl, hz1]; omega) hnews (by omega) (by omega) (by rw [hz2]; omega)
    rw [hr2] at hr
    injection hr with e1 e2
    subst hn0
    exact ⟨w.heap.size, _, e1.symm, hB, .inr (Nat.le_refl _)⟩
  · by_cases hroom : n + 1 ≤ cap
    · have hr2 := run_append_room (P := Tryd.prog) w S ty E i0 hS hi g n cap cur hg ad 1 c news (by rw [hl, hz1]; omega) hnews h1 hroom (by rw [hl, hz1, hcs, ← Nat.succ_mul]; exact Nat.mul_le_mul_right _ hroom)
      rw [hr2] at hr
      injection hr with e1 e2
      exact ⟨g, _, e1.symm, hbg, .inl rfl⟩
    · have hr2 := run_append_grow (P := Tryd.prog) w S ty E i0 _ hS hi hz0 ⟨g, 0, none⟩ n cap xs (by rw [hown.1, hz1]) (fun j u h => hown.cells (g := g) rfl j u h) ad 1 c news (by rw [hl, hz1]; omega) hnews (by omega) (by omega) (growslice_fits (by omega) (by rw [hz2]; exact hbb))
      rw [hr2] at hr
      injection hr with e1 e2
      exact ⟨w.heap.size, _, e1.symm, hB, .inr (Nat.le_refl _)⟩
/-- One element more. -/
theorem AppD.push {B : Nat} {w w1 : World} {v v1 : Value} {T : TypeId} {z n g c : Nat} {l : List D} {Fs : List (List Nat)} {es : List (D × Value × List Nat)} (h : AppD B w T z v n l Fs) {xs : List Value} (hxs : w.ownsRow B T z v n xs) (he : ∀ e ∈ es, Own w e.1 e.2.1 e.2.2 ∧ ∀ b ∈ e.2.2, B ≤ b ∧ b < w.heap.size ∧ b ∉ Fs.flatten ∧ v.ownBlock ≠ some b) (hp : es.Pairwise (fun x y => Apart x.2.2 y.2.2))
    (hown : w1.ownsRow B T z v1 (n + 1) (xs ++ es.map fun e => e.2.1)) (hgr : w.grownBy w1 v.ownBlock) (hv : v1 = .slice (some ⟨g, 0, none⟩) (n + 1) c) (hg : v.ownBlock = some g ∨ w.heap.size ≤ g) : AppD B w1 T z v1 (n + 1) (l ++ es.map fun e => e.1) (Fs ++ es.map fun e => e.2.2) := by
  obtain ⟨⟨xs2, h1, h2, h3⟩, ⟨h4, h4'⟩, h5, h6⟩ := h
  obtain rfl : xs2 = xs := by
    apply List.ext_getElem?
    intro j
    by_cases hj : j < n * z
    · rcases hxs.2 with ⟨rfl, hn⟩ | ⟨g0, cap, cur, rfl, _⟩
      · subst hn; rw [Nat.zero_mul] at hj; omega
      · rw [← World.ownsRow.cellAt h1 j hj, ← World.ownsRow.cellAt hxs j hj]
    · rw [List.getElem?_eq_none (by rw [h1.1]; omega), List.getElem?_eq_none (by rw [hxs.1]; omega)]
  have hold : ∀ b ∈ Fs.flatten, w1.heap[b]? = w.heap[b]? := fun b hb => hgr.block b (h5 b hb).2 fun e => h6 b e.symm hb
  have hs := hgr.size
  refine ⟨⟨_, hown, by simp [h2], fun j d hj => ?_⟩, ⟨by simp [h4], ?_⟩, fun b hb => ?_, fun b e hb => ?_⟩
  · by_cases hjl : j < l.length
    · rw [List.getElem?_append_left hjl] at hj
      obtain ⟨u, G, e, hu, ho⟩ := h3 j d hj
      exact ⟨u, G, by rw [List.getElem?_append_left (by omega)]; exact e, by rw [List.getElem?_append_left (by omega)]; exact hu, Own.keep d u G (fun b hb => hold b (mem_at e hb)) ho⟩
    · rw [List.getElem?_append_right (by omega), List.getElem?_map] at hj
      obtain ⟨e, hej, rfl⟩ := Option.map_eq_some_iff.1 hj
      obtain ⟨k1, k2⟩ := he e (List.mem_of_getElem? hej)
      refine ⟨e.2.1, e.2.2, ?_, ?_, Own.keep _ _ _ (fun b hb => hgr.block b (k2 b hb).2.1 fun e5 => (k2 b hb).2.2.2 e5.symm) k1⟩
      · rw [List.getElem?_append_right (by omega), h4, List.getElem?_map, hej]; rfl
      · rw [List.getElem?_append_right (by omega), h2, List.getElem?_map, hej]; rfl
  · rw [List.pairwise_append]
    refine ⟨h4', List.pairwise_map.2 hp, fun F hF G hG b hb1 hb2 => ?_⟩
    obtain ⟨e, hem, rfl⟩ := List.mem_map.1 hG
    exact ((he e hem).2 b hb2).2.2.1 (List.mem_flatten.2 ⟨F, hF, hb1⟩)
  · rw [List.flatten_append] at hb
    rcases List.mem_append.1 hb with hb | hb
    · have := h5 b hb; omega
    · obtain ⟨K, hK, hb2⟩ := List.mem_flatten.1 hb
      obtain ⟨e, hem, rfl⟩ := List.mem_map.1 hK
      have := (he e hem).2 b hb2; omega
  · rw [hv] at e
    have e2 : g = b := Option.some.inj e
    subst e2
    rw [List.flatten_append] at hb
    rcases List.mem_append.1 hb with hb | hb
    · rcases hg with hg | hg
      · exact h6 _ hg hb
      · have := h5 _ hb; omega
    · obtain ⟨K, hK, hb2⟩ := List.mem_flatten.1 hb
      obtain ⟨e, hem, rfl⟩ := List.mem_map.1 hK
      rcases hg with hg | hg
      · exact ((he e hem).2 _ hb2).2.2.2 hg
      · have := (he e hem).2 _ hb2; omega
/-- append(row, element) as a step of a region. -/
theorem step_push {B : Nat} {w : World} {v : Value} {n z by' : Nat} {S T : TypeId} {i0 : TypeInfo} {zv : Value} (hS : Tryd.prog.underlying S = some (.slice T)) (hi : Tryd.prog.info? T = some i0) (hz0 : i0.zero = some zv) (hz1 : i0.size = z) (hz2 : i0.bytes = by') (hzc : zv.cells.size = z) (hzp : 0 < z) (hby : by' ≤ 256) {l : List D} {Fs : List (List Nat)} {ops : Array Oper} {o : Oper} {a : Act} {K : Act → World → Prop} {Q : Exit → Act → World → Prop} {E : Prop} (hgd : o.guard = none) (s x : Operand)
    (ho : o.op = .call { callee := .builtin .append, args := #[s, x], argTypes := #[S, S] }) (hs : a.eval s = v) (h : AppD B w T z v n l Fs) (ad : Addr) (c : Nat) (hx : a.eval x = .slice (some ad) 1 c) (es : List (D × Value × List Nat)) (hl : es.length = z) (hnews : ∀ j u, (es.map fun e => e.2.1)[j]? = some u → w.cell? (ad.add j) = some u) (hr : ∀ e ∈ es, e.1.real) (he : ∀ e ∈ es, Own w e.1 e.2.1 e.2.2 ∧ ∀ b ∈ e.2.2, B ≤ b ∧ b < w.heap.size ∧ b ∉ Fs.flatten ∧ v.ownBlock ≠ some b) (hp : es.Pairwise (fun x y => Apart x.2.2 y.2.2)) (hn : n ≤ 1048577) (hB : B ≤ w.heap.size)
    (hK : ∀ w' g c', AppD B w' T z (.slice (some ⟨g, 0, none⟩) (n + 1) c') (n + 1) (l ++ es.map fun e => e.1) (Fs ++ es.map fun e => e.2.2) → Below B w w' → (∀ b, b < w.heap.size → v.ownBlock ≠ some b → w'.heap[b]? = w.heap[b]?) → K (a.put o.dst (.slice (some ⟨g, 0, none⟩) (n + 1) c')) w') :
    if Region.wanted o (yielded ops a.tmps) = true then Oper.wp Tryd.prog o a w K Q else E := by
  have hw : Region.wanted o (yielded ops a.tmps) = true := by simp [Region.wanted, hgd]
  rw [if_pos hw]
  obtain ⟨xs, hown, _⟩ := h.1
  obtain ⟨v', w', hr', h2, h3, g, c', rfl, h4, h5⟩ := append_row hS hi hz0 hz1 hz2 hzc hzp hby o.type hown ad c (es.map fun e => e.2.1) (by rw [List.length_map, hl]) hnews (fun u hu => by obtain ⟨e, hem, rfl⟩ := List.mem_map.1 hu; exact is_one (he e hem).1.is (hr e hem)) hn hB
  unfold Oper.wp execOp
  simp only [ho, resolve, invoke, builtin, Sem.run_bind, Sem.run_pure, Result.andThen_ok, List.map_toArray, List.map_cons, List.map_nil, hs, hx, hr']
  exact hK w' g c' (h.push hown he hp h2 h3 rfl h5) ((Below.refl _ _).grown h3 hB (fun k e => (row_lt hown e).1)) (fun b hb1 hb2 => h3.block b hb1 fun e => hb2 e.symm)
end Go.Proofs.YtbadepiakkhabaaDoor
