/- Joined texts: V26, V5, V6, V7, G6, U7. No conditions besides those that each states. -/
import Derived.StillTailTactics
import Derived.Deep.RegionHeld3
import Derived.Deep.RegionLaw
import Derived.IntWalk
import Derived.Test.YtbadepiakkhabaaDoorZ3
import Derived.Test.YtbadepiakkhabaaDoorZ6
import Derived.Test.YtbadepiakkhabaaDoorZ12
import Derived.Test.YtbadepiakkhabaaDoorZ16
/- The program's names that are declared outside of procedures. No conditions. -/
namespace Go.Proofs.YtbadepiakkhabaaDoor
open Go.RowKit
set_option linter.unusedVariables false

/-- What names mean by four lists: the local ones, records, globals, procedures. -/
def mean4 (L R G P : List ByteArray) (s : ByteArray) : Option (Int × Int) :=
  match fx L s with
  | some k => some (1, k)
  | none => match fx R s with
    | some k => some (5, k)
    | none => match fx G s with
      | some k => some (2, k)
      | none => match fx P s with
        | some k => some (3, k)
        | none => none
theorem mean4_loc (L : List ByteArray) (x s : ByteArray) : mean4 (L ++ [x]) [] [] [] s = decl (mean4 L [] [] []) x (1, (L.length : Int)) s := by
  unfold decl mean4
  rw [fx_snoc]
  generalize fx L s = a
  cases a <;> cases eqN x s <;> simp [fx_nil]
theorem mean4_rec (L R : List ByteArray) (x s : ByteArray) : mean4 L (R ++ [x]) [] [] s = decl (mean4 L R [] []) x (5, (R.length : Int)) s := by
  unfold decl mean4
  rw [fx_snoc]
  generalize fx L s = a
  generalize fx R s = b
  cases a <;> cases b <;> cases eqN x s <;> simp [fx_nil]
theorem mean4_glob (L R G : List ByteArray) (x s : ByteArray) : mean4 L R (G ++ [x]) [] s = decl (mean4 L R G []) x (2, (G.length : Int)) s := by
  unfold decl mean4
  rw [fx_snoc]
  generalize fx L s = a
  generalize fx R s = b
  generalize fx G s = c
  cases a <;> cases b <;> cases c <;> cases eqN x s <;> simp [fx_nil]
theorem mean4_proc (L R G P : List ByteArray) (x s : ByteArray) : mean4 L R G (P ++ [x]) s = decl (mean4 L R G P) x (3, (P.length : Int)) s := by
  unfold decl mean4
  rw [fx_snoc]
  generalize fx L s = a
  generalize fx R s = b
  generalize fx G s = c
  generalize fx P s = d
  cases a <;> cases b <;> cases c <;> cases d <;> cases eqN x s <;> simp
/-- What names mean in a procedure whose local names these are. -/
def meanU (u : Un) (L : List ByteArray) : ByteArray → Option (Int × Int) := mean4 L (u.recs.map Rc.name) u.globs (u.procs.map Pc.name)
theorem meanU_loc (u : Un) (L : List ByteArray) (x s : ByteArray) (hx : meanU u L x = none) : meanU u (L ++ [x]) s = decl (meanU u L) x (1, (L.length : Int)) s := by
  by_cases h : s = x
  · subst h
    unfold decl
    rw [hx]
    unfold meanU mean4 at hx ⊢
    rw [fx_snoc, eqN_self]
    generalize fx L s = a at hx ⊢
    cases a <;> simp_all
  · unfold decl meanU mean4
    rw [fx_snoc, eqN_ne (fun e => h e.symm)]
    generalize fx L s = a
    generalize fx (u.recs.map Rc.name) s = b
    generalize fx u.globs s = c
    generalize fx (u.procs.map Pc.name) s = d
    cases a <;> cases b <;> cases c <;> cases d <;> simp
theorem meanOf_means (u : Un) (L : List ByteArray) (s : ByteArray) : meanOf (meanU u L) s = means u L s := by
  unfold meanOf meanU mean4 means outer
  cases fx L s with
  | some k => rfl
  | none =>
    cases fx (u.recs.map Rc.name) s with
    | some k => rfl
    | none =>
      cases fx u.globs s with
      | some k => rfl
      | none =>
        cases fx (u.procs.map Pc.name) s with
        | some k => rfl
        | none => rfl
theorem take_map_name {α : Type} (f : α → ByteArray) (l : List α) (k : Nat) (hk : k < l.length) : (l.map f).take (k + 1) = (l.map f).take k ++ [f l[k]] := by
  rw [List.take_succ_eq_append_getElem (by simpa using hk)]
  simp
def OutR (w : World) (b : Nat) (n : Nat) (f : ByteArray → Option (Int × Int)) (wr : World) : Prop := MapM wr b n f ∧ w.grownBy wr (some b)
theorem OutR.is {w wr : World} {b n : Nat} {f : ByteArray → Option (Int × Int)} (h : OutR w b n f wr) {d : D} {v : Value} : True := trivial
theorem below_by {w0 w w' : World} {b : Nat} (hb : Below w0.heap.size w0 w) (hg : w.grownBy w' (some b)) (hB : w0.heap.size ≤ b) : Below w0.heap.size w0 w' :=
  hb.trans ⟨hg.os, hg.tape, hg.output, hg.size, fun i hi => hg.block i (Nat.lt_of_lt_of_le hi hb.size) (fun e => by injection e with e; omega)⟩
/-- How long the names are. -/
def UnNames (u : Un) : Prop := (∀ r ∈ u.recs, r.name.size ≤ maxLen) ∧ (∀ s ∈ u.globs, s.size ≤ maxLen) ∧ (∀ p ∈ u.procs, p.name.size ≤ maxLen) ∧ u.recs.length ≤ 8 ∧ u.globs.length ≤ 12 ∧ u.procs.length ≤ 12
set_option maxRecDepth 100000 in
set_option maxHeartbeats 3200000 in
theorem impl_outside (u : Un) (hu : UnNames u) (w0 : World) (v1 v2 v3 : Value) (h : UnIs w0 u v1 v2 v3) (gu ou : Nat) (c1 : w0.cell? ⟨gu, ou, none⟩ = some v1) (c2 : w0.cell? ⟨gu, ou + 1, none⟩ = some v2) (c3 : w0.cell? ⟨gu, ou + 2, none⟩ = some v3)
    (L : List ByteArray) (b n : Nat) (hn : n ≤ 100000) (hb0 : w0.heap.size ≤ b) (w : World) (hw : Below w0.heap.size w0 w) (hm : MapM w b n (mean4 L [] [] [])) :
    Calls Tryd.prog 83 #[.map (some b), .pointer (some ⟨gu, ou, none⟩)] w (DeclR b (n + 32) (meanU u L) w) := by
  unfold DeclR
  obtain ⟨h1, h2, h3⟩ := h
  obtain ⟨a1, d1, rfl⟩ := is_slice h1
  obtain ⟨a2, d2, rfl⟩ := is_slice h2
  obtain ⟨a3, d3, rfl⟩ := is_slice h3
  have HU := Lib.hid hu
  have HW := Lib.hid hw
  have C1 := Lib.hid (fun W (hW : Below w0.heap.size w0 W) => subw_below hW _ _ _ c1)
  have C2 := Lib.hid (fun W (hW : Below w0.heap.size w0 W) => subw_below hW _ _ _ c2)
  have C3 := Lib.hid (fun W (hW : Below w0.heap.size w0 W) => subw_below hW _ _ _ c3)
  have H1 := Lib.hid h1
  have H2 := Lib.hid h2
  have H3 := Lib.hid h3
  have HST : Hid (OutR w b (n + 0) (mean4 L ((u.recs.map Rc.name).take 0) [] []) w) := Lib.hid ⟨hm, grown_refl _⟩
  have c1 := C1.out w hw
  have hB := Lib.hid hb0
  obtain ⟨l1, l2, l3⟩ := hu.2.2.2
  clear h1 h2 h3 hu hm c2 c3 hb0
  go_enter Tryd.func83, Tryd.ntmps83
  go_wp2
  go_loopw [4, 5, 15] (fun _ _ i wr => ∃ k : Nat, i = .int .i64 k ∧ k ≤ u.recs.length ∧ OutR w b (n + k) (mean4 L ((u.recs.map Rc.name).take k) [] []) wr) (fun _ _ i _ => u.recs.length - (intOf i).toNat)
  case atStart => exact ⟨0, rfl, Nat.zero_le _, HST.out⟩
  case round =>
    clear HST
    obtain ⟨k, rfl, hk, hr⟩ := hrel
    have HR := Lib.hid hr
    have hbw := below_by HW.out hr.2 hB.out
    have HBW := Lib.hid hbw
    clear hr
    by_cases hlt : k < u.recs.length
    · obtain ⟨g, o, rfl, q0, ⟨y1, q1, e1⟩, q2⟩ := rec_at (H1.out.later hbw) k hlt
      obtain ⟨z1, f1, rfl⟩ := is_slice e1
      clear e1
      have k0 : (0 : Int) ≤ (k : Int) := by omega
      have k1 : (k : Int) < u.recs.length := by omega
      have HX := Lib.hid (HU.out.1 u.recs[k] (List.getElem_mem hlt))
      have HT := Lib.hid (take_map_name Rc.name u.recs k hlt)
      have n1 := bl1 wr (.cells #[.string u.recs[k].name, .slice z1 u.recs[k].fields.length f1, .int .i64 u.recs[k].line] 72)
      have VN := Lib.hid (Var.new wr #[.string u.recs[k].name, .slice z1 u.recs[k].fields.length f1, .int .i64 u.recs[k].line] 72)
      have HN1 := Lib.hid (grown_alloc wr (.cells #[.string u.recs[k].name, .slice z1 u.recs[k].fields.length f1, .int .i64 u.recs[k].line] 72) (some b))
      have HLL : Hid ((((u.recs.map Rc.name).take k).length : Int) = (k : Int)) := Lib.hid (by rw [List.length_take, List.length_map]; omega)
      have HC := Lib.hid (impl_declare b (n + k) (mean4 L ((u.recs.map Rc.name).take k) [] []) u.recs[k].name 5 (k : Int) _ (HR.out.1.later n1) HX.out (by unfold maxLen; omega))
      unfold DeclR at HC
      have HE := Lib.hid (fun s => (mean4_rec L ((u.recs.map Rc.name).take k) u.recs[k].name s))
      rw [HLL.out, ← HT.out] at HE
      clear n1 hbw HT HX
      generalize u.recs[k] = x at q0 q1 q2 VN HN1 HC HE
      go_wp2_with fail
      refine HC.out.mono ?_
      rintro e w2 ⟨rfl, hm2, hg2⟩
      have HN2 : Hid (OutR w b (n + (k + 1)) (mean4 L ((u.recs.map Rc.name).take (k + 1)) [] []) w2) := Lib.hid ⟨hm2.congr HE.out, grownr_trans HR.out.2 (grownr_trans HN1.out hg2)⟩
      clear hm2 hg2 q0 q1 q2
      go_wp2
      go_roundw
      case rel => exact ⟨k + 1, by go_num, by omega, HN2.out⟩
      case measure => first | (simp [intOf]; done) | (simp [intOf]; omega)
    · obtain rfl : k = u.recs.length := by omega
      have HR2 : Hid (OutR w b (n + 8 + 0) (mean4 L (u.recs.map Rc.name) (u.globs.take 0) []) wr) := by
        have e : (u.recs.map Rc.name).take u.recs.length = u.recs.map Rc.name := by rw [List.take_of_length_le (by simp)]
        rw [e] at HR
        exact Lib.hid ⟨HR.out.1.mono (by omega), HR.out.2⟩
      have c2 := C2.out wr hbw
      clear HR HBW hbw
      go_wp2
      go_loopw [6, 7, 31] (fun _ _ i wr => ∃ k : Nat, i = .int .i64 k ∧ k ≤ u.globs.length ∧ OutR w b (n + 8 + k) (mean4 L (u.recs.map Rc.name) (u.globs.take k) []) wr) (fun _ _ i _ => u.globs.length - (intOf i).toNat)
      case atStart => exact ⟨0, rfl, Nat.zero_le _, HR2.out⟩
      case round =>
        clear HR2
        obtain ⟨k, rfl, hk, hr⟩ := hrel
        have HR := Lib.hid hr
        have hbw := below_by HW.out hr.2 hB.out
        clear hr
        by_cases hlt : k < u.globs.length
        · obtain ⟨g, o, rfl, q0⟩ := str_at (H2.out.later hbw) k hlt
          have k0 : (0 : Int) ≤ (k : Int) := by omega
          have k1 : (k : Int) < u.globs.length := by omega
          have HLL : Hid (((u.globs.take k).length : Int) = (k : Int)) := Lib.hid (by rw [List.length_take]; omega)
          have HT : Hid (u.globs.take (k + 1) = u.globs.take k ++ [u.globs[k]]) := Lib.hid (List.take_succ_eq_append_getElem hlt)
          have HC := Lib.hid (impl_declare b (n + 8 + k) (mean4 L (u.recs.map Rc.name) (u.globs.take k) []) u.globs[k] 2 (k : Int) wr HR.out.1 (HU.out.2.1 _ (List.getElem_mem hlt)) (by unfold maxLen; omega))
          unfold DeclR at HC
          have HE := Lib.hid (fun s => (mean4_glob L (u.recs.map Rc.name) (u.globs.take k) u.globs[k] s))
          rw [HLL.out, ← HT.out] at HE
          clear hbw HT
          generalize u.globs[k] = x at q0 HC HE
          go_wp2_with fail
          refine HC.out.mono ?_
          rintro e w2 ⟨rfl, hm2, hg2⟩
          have HN2 : Hid (OutR w b (n + 8 + (k + 1)) (mean4 L (u.recs.map Rc.name) (u.globs.take (k + 1)) []) w2) := Lib.hid ⟨hm2.congr HE.out, grownr_trans HR.out.2 hg2⟩
          clear hm2 hg2 q0
          go_wp2
          go_roundw
          case rel => exact ⟨k + 1, by go_num, by omega, HN2.out⟩
          case measure => first | (simp [intOf]; done) | (simp [intOf]; omega)
        · obtain rfl : k = u.globs.length := by omega
          have HR2 : Hid (OutR w b (n + 20 + 0) (mean4 L (u.recs.map Rc.name) u.globs ((u.procs.map Pc.name).take 0)) wr) := by
            rw [List.take_length] at HR
            exact Lib.hid ⟨HR.out.1.mono (by omega), HR.out.2⟩
          have c3 := C3.out wr hbw
          clear HR hbw
          go_wp2
          go_loopw [8, 9, 46] (fun _ _ i wr => ∃ k : Nat, i = .int .i64 k ∧ k ≤ u.procs.length ∧ OutR w b (n + 20 + k) (mean4 L (u.recs.map Rc.name) u.globs ((u.procs.map Pc.name).take k)) wr) (fun _ _ i _ => u.procs.length - (intOf i).toNat)
          case atStart => exact ⟨0, rfl, Nat.zero_le _, HR2.out⟩
          case round =>
            clear HR2
            obtain ⟨k, rfl, hk, hr⟩ := hrel
            have HR := Lib.hid hr
            have hbw := below_by HW.out hr.2 hB.out
            clear hr
            by_cases hlt : k < u.procs.length
            · obtain ⟨g, o, rfl, q0, ⟨y5, q1, e5⟩, ⟨y6, q2, e6⟩, ⟨q3, q4, q5, q6⟩, ⟨y7, q7, e7⟩, q8⟩ := proc_at (H3.out.later hbw) k hlt
              obtain ⟨z5, f5, rfl⟩ := is_slice e5
              obtain ⟨z6, f6, rfl⟩ := is_slice e6
              obtain ⟨z7, f7, rfl⟩ := kids_len e7
              clear e5 e6 e7
              have k0 : (0 : Int) ≤ (k : Int) := by omega
              have k1 : (k : Int) < u.procs.length := by omega
              have HX := Lib.hid (HU.out.2.2.1 u.procs[k] (List.getElem_mem hlt))
              have HT := Lib.hid (take_map_name Pc.name u.procs k hlt)
              have n1 := bl1 wr (.cells #[.string u.procs[k].name, .slice z5 u.procs[k].params.length f5, .slice z6 u.procs[k].locals.length f6, .int .i64 u.procs[k].body.kind, .string u.procs[k].body.text, .int .i64 u.procs[k].body.num, .int .i64 u.procs[k].body.line, .slice z7 u.procs[k].body.kids.length f7, .int .i64 u.procs[k].line] 107)
              have HN1 := Lib.hid (grown_alloc wr (.cells #[.string u.procs[k].name, .slice z5 u.procs[k].params.length f5, .slice z6 u.procs[k].locals.length f6, .int .i64 u.procs[k].body.kind, .string u.procs[k].body.text, .int .i64 u.procs[k].body.num, .int .i64 u.procs[k].body.line, .slice z7 u.procs[k].body.kids.length f7, .int .i64 u.procs[k].line] 107) (some b))
              have HLL : Hid ((((u.procs.map Pc.name).take k).length : Int) = (k : Int)) := Lib.hid (by rw [List.length_take, List.length_map]; omega)
              have HC := Lib.hid (impl_declare b (n + 20 + k) (mean4 L (u.recs.map Rc.name) u.globs ((u.procs.map Pc.name).take k)) u.procs[k].name 3 (k : Int) _ (HR.out.1.later n1) HX.out (by unfold maxLen; omega))
              unfold DeclR at HC
              have HE := Lib.hid (fun s => (mean4_proc L (u.recs.map Rc.name) u.globs ((u.procs.map Pc.name).take k) u.procs[k].name s))
              rw [HLL.out, ← HT.out] at HE
              clear n1 hbw HT HX
              generalize u.procs[k] = x at q0 q1 q2 q3 q4 q5 q6 q7 q8 HN1 HC HE
              go_wp2_with fail
              refine HC.out.mono ?_
              rintro e w2 ⟨rfl, hm2, hg2⟩
              have HN2 : Hid (OutR w b (n + 20 + (k + 1)) (mean4 L (u.recs.map Rc.name) u.globs ((u.procs.map Pc.name).take (k + 1))) w2) := Lib.hid ⟨hm2.congr HE.out, grownr_trans HR.out.2 (grownr_trans HN1.out hg2)⟩
              clear hm2 hg2 q0 q1 q2 q3 q4 q5 q6 q7 q8
              go_wp2
              go_roundw
              case rel => exact ⟨k + 1, by go_num, by omega, HN2.out⟩
              case measure => first | (simp [intOf]; done) | (simp [intOf]; omega)
            · obtain rfl : k = u.procs.length := by omega
              have e : (u.procs.map Pc.name).take u.procs.length = u.procs.map Pc.name := by rw [List.take_of_length_le (by simp)]
              rw [e] at HR
              clear hbw
              go_wp2
              go_end0
              exact ⟨rfl, HR.out.1.mono (by omega), HR.out.2⟩
end Go.Proofs.YtbadepiakkhabaaDoor
/- The reference model: the names that are met in a body. No conditions. -/
namespace Go.Proofs.YtbadepiakkhabaaDoor
open Go.RowKit
set_option linter.unusedVariables false

def RetL (B : Nat) (w : World) (v : Value) (l : List ByteArray) (e : Ending) (w' : World) : Prop := ∃ v', e = .returned v' ∧ Owns w' B v' l ∧ w.grownBy w' v.ownBlock ∧ Moves w v v'
def CollT (u : Un) (w0 : World) (v1 v2 v3 : Value) (t : Ex.T) : Prop := ∀ (acc : List ByteArray) (w : World) (x v : Value), Kids w0 x t.kids → Below w0.heap.size w0 w → Owns w w0.heap.size v acc → acc.length + t.count ≤ 1048576 →
  Calls Tryd.prog 47 #[unV v1 v2 v3, exV t x, v] w (RetL w0.heap.size w v (coll u t acc))
theorem kind_b {k n : Int} (h : k = n) : (k == n) = true := by rw [h]; exact beq_self_eq_true n
theorem kind_nb {k n : Int} (h : k ≠ n) : (k == n) = false := by rw [beq_eq_false_iff_ne]; exact h
theorem coll_new {u : Un} {t : Ex.T} {acc : List ByteArray} (hk : t.kind = 4 ∨ t.kind = 28) (h1 : (outer u t.text).1 = 0) (h2 : fx acc t.text = none) : coll u t acc = acc ++ [t.text] := by
  rw [coll_eq, if_pos (by rcases hk with h | h <;> simp [h]), if_pos (by unfold fresh; rw [h1, h2]; rfl)]
theorem coll_old {u : Un} {t : Ex.T} {acc : List ByteArray} {k : Nat} (hk : t.kind = 4 ∨ t.kind = 28) (h2 : fx acc t.text = some k) : coll u t acc = acc := by
  rw [coll_eq, if_pos (by rcases hk with h | h <;> simp [h]), if_neg (by unfold fresh; rw [h2]; simp)]
theorem coll_out {u : Un} {t : Ex.T} {acc : List ByteArray} (hk : t.kind = 4 ∨ t.kind = 28) (h1 : (outer u t.text).1 ≠ 0) : coll u t acc = acc := by
  rw [coll_eq, if_pos (by rcases hk with h | h <;> simp [h]), if_neg (by unfold fresh; rw [beq_eq_false_iff_ne.2 h1]; simp)]
theorem coll_kids {u : Un} {t : Ex.T} {acc : List ByteArray} (h4 : t.kind ≠ 4) (h28 : t.kind ≠ 28) : coll u t acc = colls u t.kids acc := by
  rw [coll_eq, if_neg (by simp [h4, h28])]
set_option maxRecDepth 100000 in
set_option maxHeartbeats 3200000 in
/-- A name. -/
theorem collect_name (u : Un) (hb : u.bulk ≤ 1048576) (w0 : World) (v1 v2 v3 : Value) (hu : UnIs w0 u v1 v2 v3) (t : Ex.T) (hk : t.kind = 4 ∨ t.kind = 28) : CollT u w0 v1 v2 v3 t := by
  intro acc w x v hx hbl hown hln
  unfold RetL
  have HO := Lib.hid (spec_outer u hb t.text)
  unfold RetII at HO
  obtain ⟨h1, h2, h3⟩ := hu
  have HU := Lib.hid (fun W (hW : Below w0.heap.size w0 W) => (⟨h1.later hW, h2.later hW, h3.later hW⟩ : UnIs W u v1 v2 v3))
  obtain ⟨a1, c1, rfl⟩ := is_slice h1
  obtain ⟨a2, c2, rfl⟩ := is_slice h2
  obtain ⟨a3, c3, rfl⟩ := is_slice h3
  obtain ⟨a4, c4, rfl⟩ := kids_len hx
  obtain ⟨a5, c5, rfl⟩ := owns_slice hown
  have hz := hbl.size
  have hq1 := bl1 w (.cells #[.slice a1 u.recs.length c1, .slice a2 u.globs.length c2, .slice a3 u.procs.length c3] 51)
  have HQ1 := Var.new w #[.slice a1 u.recs.length c1, .slice a2 u.globs.length c2, .slice a3 u.procs.length c3] 51
  obtain ⟨w1, hw1⟩ : ∃ W, w.alloc (.cells #[.slice a1 u.recs.length c1, .slice a2 u.globs.length c2, .slice a3 u.procs.length c3] 51) = W := ⟨_, rfl⟩
  have hz1 : w1.heap.size = w.heap.size + 1 := by rw [← hw1, World.size_alloc]
  rw [hw1] at hq1 HQ1
  have hq2 := bl1 w1 (.cells #[.int .i64 t.kind, .string t.text, .int .i64 t.num, .int .i64 t.line, .slice a4 t.kids.length c4] 105)
  have HQ2 := Var.new w1 #[.int .i64 t.kind, .string t.text, .int .i64 t.num, .int .i64 t.line, .slice a4 t.kids.length c4] 105
  obtain ⟨w2, hw2⟩ : ∃ W, w1.alloc (.cells #[.int .i64 t.kind, .string t.text, .int .i64 t.num, .int .i64 t.line, .slice a4 t.kids.length c4] 105) = W := ⟨_, rfl⟩
  have hz2 : w2.heap.size = w.heap.size + 2 := by rw [← hw2, World.size_alloc, hz1]
  rw [hw2] at hq2 HQ2
  have hq := below_then hq1 hq2
  have HBW := Lib.hid (hbl.trans (hq.mono hz))
  have HW2 := Lib.hid (show (w.alloc (.cells #[.slice a1 u.recs.length c1, .slice a2 u.globs.length c2, .slice a3 u.procs.length c3] 51)).alloc (.cells #[.int .i64 t.kind, .string t.text, .int .i64 t.num, .int .i64 t.line, .slice a4 t.kids.length c4] 105) = w2 by rw [hw1, hw2])
  have HV1 := Lib.hid (HQ1.later hq2)
  rw [hz1] at HQ2
  have HV2 := Lib.hid HQ2
  have HG := Lib.hid (grown_below hq (Value.ownBlock (.slice a5 acc.length c5)))
  have HOW := Lib.hid (owns_later hown hq)
  have HC := Lib.hid (HO.out w2 _ _ _ (HU.out w2 HBW.out))
  have HZ := Lib.hid hz2
  have HZ0 := Lib.hid hz
  have k1 : (t.kind == 4) = true ∨ ((t.kind == 4) = false ∧ (t.kind == 28) = true) := by
    rcases hk with h | h
    · exact .inl (kind_b h)
    · exact .inr ⟨by rw [h]; rfl, kind_b h⟩
  have HK := Lib.hid hk
  have hln2 : acc.length ≤ 1048576 := by omega
  have HLN := Lib.hid hln2
  clear hln hown hq hq1 hq2 HQ1 HQ2 hw1 hw2 hbl hz1 hz2 hz h1 h2 h3 hx hb HO HU hk hln2
  obtain ⟨p, hp⟩ : ∃ p, outer u t.text = p := ⟨_, rfl⟩
  rw [hp] at HC
  have HP := Lib.hid hp
  clear hp
  by_cases h0 : p.1 = 0
  · have t0 : (p.1 == 0) = true := kind_b h0
    rcases hf : fx acc t.text with _ | q
    · have HX := Lib.hid (coll_new HK.out (by rw [HP.out]; exact h0) hf)
      have HFI := Lib.hid (fxI_none hf)
      clear hf h0
      rcases k1 with k1 | ⟨k1, k2⟩
      all_goals
        go_enter Tryd.func47, Tryd.ntmps47
        go_wp2_with fail
        rw [HW2.out]
        have x0 := (HV1.out 0 _ rfl).1
        have x1 := (HV1.out 1 _ rfl).1
        have x2 := (HV1.out 2 _ rfl).1
        have y0 := (HV2.out 0 _ rfl).1
        have y1 := (HV2.out 1 _ rfl).1
        go_wp2_with fail
        refine HC.out.mono ?_
        rintro e w3 ⟨rfl, b3⟩
        have B3 := Lib.hid b3
        have HF := Lib.hid (spec_find _ acc t.text w3 (Is.strs_of_owns (owns_later HOW.out b3)) (by have := HLN.out; omega))
        rw [HFI.out] at HF
        have y1 := ((HV2.out.later b3) 1 _ rfl).1
        clear b3
        go_wp2_with fail
        refine HF.out.mono ?_
        rintro e w4 ⟨rfl, rfl⟩
        have HOW3 := Lib.hid (owns_later HOW.out B3.out)
        have hbn := HBW.out.size
        have hb3 := B3.out.size
        have HLE := Lib.hid (Nat.le_trans hbn hb3)
        clear hbn hb3
        go_wp2_with (at_builtin; refine wpList_append_str (B := w0.heap.size) rfl _ _ rfl rfl (owns_later HOW3.out (bl1 _ _)) ⟨w3.heap.size, 0, none⟩ t.text rfl ?c1 HLN.out ?c2 ?_)
        case c1 => exact new_cell _ _ _ 0 _ rfl
        case c2 => exact Nat.le_trans HLE.out (bl1 _ _).size
        intro g c' w5 ho hg hm
        have HN := Lib.hid (show Owns w5 w0.heap.size (.slice (some ⟨g, 0, none⟩) (acc.length + 1) c') (coll u t acc) by rw [HX.out]; exact ho)
        have HGG := Lib.hid (grown_then (grown_then HG.out (grown_below (below_then B3.out (bl1 _ _)) _) (Moves.refl _ _)) hg (Moves.refl _ _))
        have HM := Lib.hid hm
        clear ho hg hm
        go_wp2
        go_ret
        refine ⟨_, rfl, HN.out, HGG.out, fun b hb => ?_⟩
        obtain rfl : g = b := Option.some.inj hb
        rcases HM.out with h | h
        · exact .inl h
        · right
          have h1 := B3.out.size
          have h2 := HZ.out
          have h3 := (bl1 w3 (.cells #[.string t.text] 9)).size
          omega
    · have HX := Lib.hid (coll_old (u := u) HK.out hf)
      have HFI := Lib.hid (fxI_some hf)
      clear hf h0
      rcases k1 with k1 | ⟨k1, k2⟩
      all_goals
        go_enter Tryd.func47, Tryd.ntmps47
        go_wp2_with fail
        rw [HW2.out]
        have x0 := (HV1.out 0 _ rfl).1
        have x1 := (HV1.out 1 _ rfl).1
        have x2 := (HV1.out 2 _ rfl).1
        have y0 := (HV2.out 0 _ rfl).1
        have y1 := (HV2.out 1 _ rfl).1
        go_wp2_with fail
        refine HC.out.mono ?_
        rintro e w3 ⟨rfl, b3⟩
        have B3 := Lib.hid b3
        have HF := Lib.hid (spec_find _ acc t.text w3 (Is.strs_of_owns (owns_later HOW.out b3)) (by have := HLN.out; omega))
        rw [HFI.out] at HF
        have y1 := ((HV2.out.later b3) 1 _ rfl).1
        clear b3
        go_wp2_with fail
        refine HF.out.mono ?_
        rintro e w4 ⟨rfl, rfl⟩
        go_wp2
        go_ret
        exact ⟨_, rfl, by rw [HX.out]; exact owns_later HOW.out B3.out, grown_then HG.out (grown_below B3.out _) (Moves.refl _ _), Moves.refl _ _⟩
  · have t0 : (p.1 == 0) = false := kind_nb h0
    have HX := Lib.hid (coll_out (acc := acc) HK.out (by rw [HP.out]; exact h0))
    clear h0
    rcases k1 with k1 | ⟨k1, k2⟩
    all_goals
      go_enter Tryd.func47, Tryd.ntmps47
      go_wp2_with fail
      rw [HW2.out]
      have x0 := (HV1.out 0 _ rfl).1
      have x1 := (HV1.out 1 _ rfl).1
      have x2 := (HV1.out 2 _ rfl).1
      have y0 := (HV2.out 0 _ rfl).1
      have y1 := (HV2.out 1 _ rfl).1
      go_wp2_with fail
      refine HC.out.mono ?_
      rintro e w3 ⟨rfl, b3⟩
      have B3 := Lib.hid b3
      clear b3
      go_wp2
      go_ret
      exact ⟨_, rfl, by rw [HX.out]; exact owns_later HOW.out B3.out, grown_then HG.out (grown_below B3.out _) (Moves.refl _ _), Moves.refl _ _⟩
end Go.Proofs.YtbadepiakkhabaaDoor
/- The reference model's l9Collect, whole; LocalNames. No conditions. -/
namespace Go.Proofs.YtbadepiakkhabaaDoor
open Go.RowKit
set_option linter.unusedVariables false

/-- What is carried round the kids. -/
def CollR (w0 w w2 : World) (A1 A2 : List Value) (v : Value) (l : List ByteArray) (vr : Value) (wr : World) : Prop :=
  Owns wr w0.heap.size vr l ∧ w.grownBy wr v.ownBlock ∧ Moves w v vr ∧ (Var wr w.heap.size A1 ∧ Var wr (w.heap.size + 1) A2) ∧ Below w0.heap.size w0 wr ∧ ((∀ b, v.ownBlock = some b → b < w.heap.size) ∧ w.heap.size + 2 ≤ wr.heap.size ∧ vr.ownBlock ≠ some w.heap.size ∧ vr.ownBlock ≠ some (w.heap.size + 1))
theorem CollR.drew {w0 w w2 : World} {A1 A2 : List Value} {v : Value} {l : List ByteArray} {vr : Value} {wr : World} (h : CollR w0 w w2 A1 A2 v l vr wr) : CollR w0 w w2 A1 A2 v l vr wr.drew := by
  obtain ⟨hown, hgr, hmv, ⟨hv1, hv2⟩, hbl, hlt0, hsz, hne⟩ := h
  exact ⟨owns_later hown (Below.refl _ _).drew, ⟨hgr.os, hgr.tape, hgr.output, hgr.size, hgr.block⟩, hmv, ⟨hv1, hv2⟩, hbl.drew, hlt0, hsz, hne⟩
set_option maxRecDepth 100000 in
set_option maxHeartbeats 3200000 in
theorem collect_kids (u : Un) (w0 : World) (v1 v2 v3 : Value) (hu : UnIs w0 u v1 v2 v3) (t : Ex.T) (hI : ∀ x ∈ t.kids, CollT u w0 v1 v2 v3 x) (hbk : t.kids.length ≤ 1048576) (h4 : t.kind ≠ 4) (h28 : t.kind ≠ 28) : CollT u w0 v1 v2 v3 t := by
  intro acc w x v hx hbl hown hln
  unfold RetL
  have HI := Lib.hid hI
  unfold CollT RetL at HI
  obtain ⟨h1, h2, h3⟩ := hu
  obtain ⟨a1, c1, rfl⟩ := is_slice h1
  obtain ⟨a2, c2, rfl⟩ := is_slice h2
  obtain ⟨a3, c3, rfl⟩ := is_slice h3
  have HKX := Lib.hid hx
  obtain ⟨a4, c4, rfl⟩ := kids_len hx
  have hz := hbl.size
  have hq1 := bl1 w (.cells #[.slice a1 u.recs.length c1, .slice a2 u.globs.length c2, .slice a3 u.procs.length c3] 51)
  have HQ1 := Var.new w #[.slice a1 u.recs.length c1, .slice a2 u.globs.length c2, .slice a3 u.procs.length c3] 51
  obtain ⟨w1, hw1⟩ : ∃ W, w.alloc (.cells #[.slice a1 u.recs.length c1, .slice a2 u.globs.length c2, .slice a3 u.procs.length c3] 51) = W := ⟨_, rfl⟩
  have hz1 : w1.heap.size = w.heap.size + 1 := by rw [← hw1, World.size_alloc]
  rw [hw1] at hq1 HQ1
  have hq2 := bl1 w1 (.cells #[.int .i64 t.kind, .string t.text, .int .i64 t.num, .int .i64 t.line, .slice a4 t.kids.length c4] 105)
  have HQ2 := Var.new w1 #[.int .i64 t.kind, .string t.text, .int .i64 t.num, .int .i64 t.line, .slice a4 t.kids.length c4] 105
  obtain ⟨w2, hw2⟩ : ∃ W, w1.alloc (.cells #[.int .i64 t.kind, .string t.text, .int .i64 t.num, .int .i64 t.line, .slice a4 t.kids.length c4] 105) = W := ⟨_, rfl⟩
  have hz2 : w2.heap.size = w.heap.size + 2 := by rw [← hw2, World.size_alloc, hz1]
  rw [hw2] at hq2 HQ2
  rw [hz1] at HQ2
  have hq := below_then hq1 hq2
  have HW2 := Lib.hid (show (w.alloc (.cells #[.slice a1 u.recs.length c1, .slice a2 u.globs.length c2, .slice a3 u.procs.length c3] 51)).alloc (.cells #[.int .i64 t.kind, .string t.text, .int .i64 t.num, .int .i64 t.line, .slice a4 t.kids.length c4] 105) = w2 by rw [hw1, hw2])
  have HST : Hid (CollR w0 w w2 [.slice a1 u.recs.length c1, .slice a2 u.globs.length c2, .slice a3 u.procs.length c3] [.int .i64 t.kind, .string t.text, .int .i64 t.num, .int .i64 t.line, .slice a4 t.kids.length c4] v (colls u (t.kids.take 0) acc) v w2) :=
    Lib.hid ⟨by rw [List.take_zero, colls]; exact owns_later hown hq, grown_below hq _, Moves.refl _ _, ⟨HQ1.later hq2, HQ2⟩, hbl.trans (hq.mono hz), fun b hb => (owns_lt hown hb).2, by omega, fun e => by have := (owns_lt hown e).2; omega, fun e => by have := (owns_lt hown e).2; omega⟩
  have HX := Lib.hid (coll_kids (u := u) (acc := acc) h4 h28)
  have k4 := kind_nb h4
  have k28 := kind_nb h28
  have HLN : Hid (acc.length + Ex.counts t.kids ≤ 1048576 ∧ acc.length ≤ 1048576) := Lib.hid (by have := count_eq t; omega)
  have y0 := (HST.out.2.2.2.1.2 0 _ rfl).1
  clear hI hx hbl hown hln hz hz1 hz2 hq hq1 hq2 HQ1 HQ2 hw1 hw2 h1 h2 h3 h4 h28
  go_enter Tryd.func47, Tryd.ntmps47
  go_wp2_with fail
  rw [HW2.out]
  go_wp2
  go_loopw [2, 9] (fun vr i wr => ∃ k : Nat, i = .int .i64 k ∧ k ≤ t.kids.length ∧ CollR w0 w w2 [.slice a1 u.recs.length c1, .slice a2 u.globs.length c2, .slice a3 u.procs.length c3] [.int .i64 t.kind, .string t.text, .int .i64 t.num, .int .i64 t.line, .slice a4 t.kids.length c4] v (colls u (t.kids.take k) acc) vr wr) (fun _ i _ => t.kids.length - (intOf i).toNat)
  case atStart => exact ⟨0, rfl, Nat.zero_le _, HST.out⟩
  case round =>
    clear HST y0
    obtain ⟨k, rfl, hk, hr⟩ := hrel
    have HR := Lib.hid hr
    obtain ⟨hown, hgr, hmv, ⟨hv1, hv2⟩, hbl, hlt0, hsz, hne1, hne2⟩ := hr
    have x0 := (hv1 0 _ rfl).1
    have x1 := (hv1 1 _ rfl).1
    have x2 := (hv1 2 _ rfl).1
    have y4 := (hv2 4 _ rfl).1
    have ll := colls_len u (t.kids.take k) acc
    have lt4 := Ex.counts_take_le t.kids k
    by_cases hlt : k < t.kids.length
    · obtain ⟨gk, ok, rfl, ht⟩ := kids_at (HKX.out.later hbl) k hlt
      obtain ⟨⟨q0, q1, q2, q3⟩, vx, q4, hkv⟩ := tree_cells ht
      have hx0 : Kids w0 vx t.kids[k].kids := by
        obtain ⟨g9, o9, e9, ht9⟩ := kids_at HKX.out k hlt
        obtain rfl : g9 = gk := by injection e9 with e9; injection e9 with e9 _ _; exact e9.symm
        obtain rfl : o9 = ok := by injection e9 with e9; injection e9 with _ e9 _; exact e9.symm
        obtain ⟨_, vy, q9, hky⟩ := tree_cells ht9
        obtain rfl : vy = vx := Option.some.inj ((subw_below hbl _ _ _ q9).symm.trans q4)
        exact hky
      have hlk : (colls u (t.kids.take k) acc).length + t.kids[k].count ≤ 1048576 := by
        have l5 := Ex.counts_take t.kids k hlt
        have l6 := Ex.counts_take_le t.kids (k + 1)
        have := HLN.out.1
        omega
      have HC := Lib.hid (HI.out t.kids[k] (List.getElem_mem hlt) (colls u (t.kids.take k) acc) wr.drew vx u2 hx0 hbl.drew (owns_later hown (Below.refl _ _).drew) hlk)
      rw [← colls_take u t.kids k hlt acc] at HC
      obtain ⟨a8, c8, rfl⟩ := kids_len hkv
      have k0 : (0 : Int) ≤ k := by omega
      have k1 : (k : Int) < t.kids.length := by omega
      clear hown hgr hmv hv1 hv2 hbl hlt0 hsz hne1 hne2 ht hkv hx0 ll lt4 hlk
      obtain ⟨acc2, hacc⟩ : ∃ l, colls u (t.kids.take (k + 1)) acc = l := ⟨_, rfl⟩
      rw [hacc] at HC
      have HACC := Lib.hid hacc
      clear hacc
      generalize t.kids[k] = y at q0 q1 q2 q3 q4 HC
      go_wp2_with fail
      go_still_tail 7, (by kernel_rfl)
      change wpList _ _ _ _ _ wr.drew
      clear x0 x1 x2 y4 q0 q1 q2 q3 q4
      have HD := Lib.hid HR.out.drew
      generalize wr.drew = w5 at HC HD ⊢
      go_wp2_with (go_at_call 47; (with_reducible refine HC.out.mono ?_); rintro e w6 ⟨v6, rfl, ho6, hg6, hm6⟩)
      have HN : Hid (CollR w0 w w2 [.slice a1 u.recs.length c1, .slice a2 u.globs.length c2, .slice a3 u.procs.length c3] [.int .i64 t.kind, .string t.text, .int .i64 t.num, .int .i64 t.line, .slice (some ⟨gk, ok, none⟩) t.kids.length c4] v acc2 v6 w6) := by
        obtain ⟨hown, hgr, hmv, ⟨hv1, hv2⟩, hbl, hlt0, hsz, hne1, hne2⟩ := HD.out
        refine Lib.hid ⟨ho6, grown_then hgr hg6 hmv, hmv.trans hm6 hgr, ⟨hv1.grown (by omega) hg6 hne1, hv2.grown (by omega) hg6 hne2⟩, below_grown hbl hown (Nat.le_refl _) hg6, hlt0, Nat.le_trans hsz hg6.size, fun e => ?_, fun e => ?_⟩
        · rcases hm6 _ e with h | h
          · exact hne1 h
          · omega
        · rcases hm6 _ e with h | h
          · exact hne2 h
          · omega
      clear ho6 hg6 hm6 HD HC HR
      go_roundw
      case rel => exact ⟨k + 1, by go_num, by omega, by rw [HACC.out]; exact HN.out⟩
      case measure => first | (simp [intOf]; done) | (simp [intOf]; omega)
    · obtain rfl : k = t.kids.length := by omega
      clear hown hgr hmv hv1 hv2 hbl hlt0 hsz hne1 hne2 ll lt4
      go_wp2
      go_ret
      refine ⟨_, rfl, ?_, HR.out.2.1, HR.out.2.2.1⟩
      have h := HR.out.1
      rw [List.take_length] at h
      rw [HX.out]
      exact h
theorem spec_collect (u : Un) (hb : u.bulk ≤ 1048576) (w0 : World) (v1 v2 v3 : Value) (hu : UnIs w0 u v1 v2 v3) : ∀ (N : Nat) (t : Ex.T), t.count ≤ N → t.bulk ≤ 1048576 → CollT u w0 v1 v2 v3 t := by
  intro N
  induction N with
  | zero => intro t h; have := Ex.count_pos t; omega
  | succ N ih =>
    intro t hN hbt
    by_cases h4 : t.kind = 4
    · exact collect_name u hb w0 v1 v2 v3 hu t (.inl h4)
    · by_cases h28 : t.kind = 28
      · exact collect_name u hb w0 v1 v2 v3 hu t (.inr h28)
      · have hbe := bulk_eq t
        exact collect_kids u w0 v1 v2 v3 hu t (fun x hx => ih x (by have := kids_count hx; omega) (by have := Ex.bulks_mem hx; omega)) (by omega) h4 h28
end Go.Proofs.YtbadepiakkhabaaDoor
/- Appending a whole list of names to a list of the call's own. No conditions. -/
namespace Go.Proofs.YtbadepiakkhabaaDoor
open Go.RowKit
set_option linter.unusedVariables false

theorem own_first (W : World) (n : Nat) (hn : W.heap.size = n) : Owns (W.alloc (.cells #[] 9)) n (.slice (some ⟨n, 0, none⟩) 0 0) [] := by
  subst hn
  exact World.ownsRow_made W #[] 0 (Nat.le_refl _) (by unfold maxLen; omega) rfl
theorem append_strs {B : Nat} {w : World} {v x : Value} {l m : List ByteArray} (ty : TypeId) (hown : Owns w B v l) (hx : Is w (strsD m) x) (hn : l.length + m.length ≤ 1048576) (hB : B ≤ w.heap.size) :
    ∃ v' w', (Builtin.append_ #[35, 35] ty #[v, x]).run Tryd.prog w = .ok v' w' ∧ Owns w' B v' (l ++ m) ∧ w.grownBy w' v.ownBlock ∧ Moves w v v' := by
  obtain ⟨i0, hi, hz0, hz1, hz2⟩ := info_parts info_string
  obtain ⟨a, c, rfl⟩ := is_slice hx
  by_cases h0 : m = []
  · subst h0
    rw [List.append_nil]
    refine ⟨v, w, ?_, hown, grown_refl _, Moves.refl _ _⟩
    rcases hown.2 with ⟨rfl, hl⟩ | ⟨g, cap, cur, rfl, _, hg, hc, hm, hcs, _⟩
    · cases a with
      | none => simp [Builtin.append_, run_underlying Tryd.underlying35, sizeOf, typeInfo, hi, Builtin.lenOf, Builtin.firstCells]
      | some ad2 =>
        have hf := run_firstCells_some (P := Tryd.prog) w i0.size 0 ad2 0 c [] (by simp) (by simp)
        simp [Builtin.append_, run_underlying Tryd.underlying35, sizeOf, typeInfo, hi, Builtin.lenOf, hf]
    · cases a with
      | none => simp [Builtin.append_, run_underlying Tryd.underlying35, sizeOf, typeInfo, hi, Builtin.lenOf, Builtin.firstCells, storeCells, hc]
      | some ad2 =>
        have hf := run_firstCells_some (P := Tryd.prog) w i0.size 0 ad2 0 c [] (by simp) (by simp)
        simp [Builtin.append_, run_underlying Tryd.underlying35, sizeOf, typeInfo, hi, Builtin.lenOf, hf, storeCells, hc]
  · obtain ⟨g, o, us, rfl, hul, hus, hone, hd⟩ := row_vals hx (by simpa using h0) (str_real m)
    have hul2 : us.length = m.length := by rw [hul, List.length_map]
    have hpos := List.length_pos_iff.2 h0
    have hvals : us = m.map Value.string := by
      apply List.ext_getElem?
      intro j
      by_cases hj : j < m.length
      · obtain ⟨u, hu, hI⟩ := hd j (.str m[j]) (by rw [List.getElem?_map, List.getElem?_eq_getElem hj]; rfl)
        rw [hu, is_str hI, List.getElem?_map, List.getElem?_eq_getElem hj]; rfl
      · rw [List.getElem?_eq_none (by omega), List.getElem?_eq_none (by rw [List.length_map]; omega)]
    obtain ⟨v', w', hr, h2, h3, _⟩ := run_append_own (P := Tryd.prog) w B 35 ty 9 i0 (.string ByteArray.empty) 1 16 Tryd.underlying35 hi hz0 hz1 hz2 rfl (by decide) v l.length (l.map Value.string) hown ⟨g, o, none⟩ m.length c us (by omega) hus hone (by unfold maxLen; omega) (by omega) hB
    refine ⟨v', w', hr, ?_, h3, fun b hb => ?_⟩
    · unfold Owns
      rw [List.map_append, List.length_append, ← hvals]
      exact h2
    · rcases hown.2 with ⟨rfl, hn0⟩ | ⟨g2, cap, cur, rfl, hbg, hg, hnc, hcm, hcs, htake⟩
      · have hr2 := run_append_nil (P := Tryd.prog) w 35 ty 9 i0 _ Tryd.underlying35 hi hz0 ⟨g, o, none⟩ m.length c us (by rw [hz1]; omega) hus hpos (by omega) (by rw [hz2]; omega)
        rw [hr2] at hr
        injection hr with e1 e2
        subst e1
        obtain rfl : w.heap.size = b := Option.some.inj hb
        exact .inr (Nat.le_refl _)
      · by_cases hroom : l.length + m.length ≤ cap
        · have hr2 := run_append_room (P := Tryd.prog) w 35 ty 9 i0 Tryd.underlying35 hi g2 l.length cap cur hg ⟨g, o, none⟩ m.length c us (by rw [hz1]; omega) hus hone hroom (by rw [hz1, hcs]; omega)
          rw [hr2] at hr
          injection hr with e1 e2
          subst e1
          exact .inl hb
        · have hr2 := run_append_grow (P := Tryd.prog) w 35 ty 9 i0 _ Tryd.underlying35 hi hz0 ⟨g2, 0, none⟩ l.length cap (l.map Value.string) (by rw [List.length_map, hz1]; omega) (fun j u h => World.ownsRow.cells hown (g := g2) rfl j u h) ⟨g, o, none⟩ m.length c us (by rw [hz1]; omega) hus (by omega) (by omega) (growslice_fits (by omega) (by rw [hz2]; omega))
          rw [hr2] at hr
          injection hr with e1 e2
          subst e1
          obtain rfl : w.heap.size = b := Option.some.inj hb
          exact .inr (Nat.le_refl _)
theorem step_append_more {B : Nat} {w : World} {v x : Value} {l m : List ByteArray} {ops : Array Oper} {o : Oper} {a : Act} {K : Act → World → Prop} {Q : Exit → Act → World → Prop} {E : Prop} (hgd : o.guard = none) (s y : Operand)
    (ho : o.op = .call { callee := .builtin .append, args := #[s, y], argTypes := #[35, 35] }) (hs : a.eval s = v) (hy : a.eval y = x) (hown : Owns w B v l) (hx : Is w (strsD m) x) (hn : l.length + m.length ≤ 1048576) (hB : B ≤ w.heap.size)
    (h : ∀ v' w', Owns w' B v' (l ++ m) → w.grownBy w' v.ownBlock → Moves w v v' → K (a.put o.dst v') w') :
    if Region.wanted o (yielded ops a.tmps) = true then Oper.wp Tryd.prog o a w K Q else E := by
  have hw : Region.wanted o (yielded ops a.tmps) = true := by simp [Region.wanted, hgd]
  rw [if_pos hw]
  obtain ⟨v', w', hr, h2, h3, h4⟩ := append_strs o.type hown hx hn hB
  unfold Oper.wp execOp
  simp only [ho, resolve, invoke, builtin, Sem.run_bind, Sem.run_pure, Result.andThen_ok, List.map_toArray, List.map_cons, List.map_nil, hs, hy, hr]
  exact h v' w' h2 h3 h4
theorem wpList_append_more {B : Nat} {w : World} {v x : Value} {l m : List ByteArray} {ops : Array Oper} {rest : List Oper} {o : Oper} {a : Act} {Q : Exit → Act → World → Prop} (hgd : o.guard = none) (s y : Operand)
    (ho : o.op = .call { callee := .builtin .append, args := #[s, y], argTypes := #[35, 35] }) (hs : a.eval s = v) (hy : a.eval y = x) (hown : Owns w B v l) (hx : Is w (strsD m) x) (hn : l.length + m.length ≤ 1048576) (hB : B ≤ w.heap.size)
    (h : ∀ v' w', Owns w' B v' (l ++ m) → w.grownBy w' v.ownBlock → Moves w v v' → wpList Tryd.prog ops Q rest (a.put o.dst v') w') : wpList Tryd.prog ops Q (o :: rest) a w := by
  refine wpList_plain hgd fun K hK => ?_
  obtain ⟨v', w', hr, h2, h3, h4⟩ := append_strs o.type hown hx hn hB
  unfold Oper.wp execOp
  simp only [ho, resolve, invoke, builtin, Sem.run_bind, Sem.run_pure, Result.andThen_ok, List.map_toArray, List.map_cons, List.map_nil, hs, hy, hr]
  exact hK _ _ (h v' w' h2 h3 h4)
end Go.Proofs.YtbadepiakkhabaaDoor
/- The laws' comparison of a tree with itself. No conditions. -/
namespace Go.Proofs.YtbadepiakkhabaaDoor
open Go.RowKit
set_option linter.unusedVariables false

end Go.Proofs.YtbadepiakkhabaaDoor
/- The laws' comparison of records, procedures and units that are alike. No conditions. -/
namespace Go.Proofs.YtbadepiakkhabaaDoor
open Go.RowKit
set_option linter.unusedVariables false

/-- Two new variables. -/
def Vars2 (w : World) (A B : List Value) (W : World) : Prop := (Var W w.heap.size A ∧ Var W (w.heap.size + 1) B) ∧ Below w.heap.size w W
theorem Vars2.start (w : World) (A B : Array Value) (S T : TypeId) : Vars2 w A.toList B.toList ((w.alloc (.cells A S)).alloc (.cells B T)) := by
  have h1 := Var.new w A S
  have h2 := Var.new (w.alloc (.cells A S)) B T
  rw [World.size_alloc] at h2
  have b1 := bl1 w (.cells A S)
  have b2 := bl1 (w.alloc (.cells A S)) (.cells B T)
  exact ⟨⟨h1.later b2, h2⟩, below_then b1 b2⟩
theorem Vars2.later {w W W' : World} {A B : List Value} (h : Vars2 w A B W) (hb : Below W.heap.size W W') : Vars2 w A B W' := ⟨⟨h.1.1.later hb, h.1.2.later hb⟩, below_then h.2 hb⟩

end Go.Proofs.YtbadepiakkhabaaDoor
