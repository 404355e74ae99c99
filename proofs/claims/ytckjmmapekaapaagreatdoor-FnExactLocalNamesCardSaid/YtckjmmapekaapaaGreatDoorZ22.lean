/- Joined texts: V26, V5. No conditions besides those that each states. -/
import Derived.StillTailTactics
import Derived.Test.YtckjmmapekaapaaGreatDoorZ17
import Derived.Test.YtckjmmapekaapaaGreatDoorZ21
/- The program's names that are declared outside of procedures. No conditions. -/
namespace Go.Proofs.YtckjmmapekaapaaGreatDoor
open Go.RowKit
set_option linter.unusedVariables false

/-- What names mean by four lists: the local ones, records, globals, procedures. -/
def mean4 (L R G P : List ByteArray) (s : ByteArray) : Option (Int × Int) :=
  match fx L s with
  | some k => some (1, k)
  | none => match fx R s with
    | some k => some (5, k)
    | none => match fx G s with
      | some k => some (2, k)
      | none => match fx P s with
        | some k => some (3, k)
        | none => none
theorem mean4_loc (L : List ByteArray) (x s : ByteArray) : mean4 (L ++ [x]) [] [] [] s = decl (mean4 L [] [] []) x (1, (L.length : Int)) s := by
  unfold decl mean4
  rw [fx_snoc]
  generalize fx L s = a
  cases a <;> cases eqN x s <;> simp [fx_nil]
theorem mean4_rec (L R : List ByteArray) (x s : ByteArray) : mean4 L (R ++ [x]) [] [] s = decl (mean4 L R [] []) x (5, (R.length : Int)) s := by
  unfold decl mean4
  rw [fx_snoc]
  generalize fx L s = a
  generalize fx R s = b
  cases a <;> cases b <;> cases eqN x s <;> simp [fx_nil]
theorem mean4_glob (L R G : List ByteArray) (x s : ByteArray) : mean4 L R (G ++ [x]) [] s = decl (mean4 L R G []) x (2, (G.length : Int)) s := by
  unfold decl mean4
  rw [fx_snoc]
  generalize fx L s = a
  generalize fx R s = b
  generalize fx G s = c
  cases a <;> cases b <;> cases c <;> cases eqN x s <;> simp [fx_nil]
theorem mean4_proc (L R G P : List ByteArray) (x s : ByteArray) : mean4 L R G (P ++ [x]) s = decl (mean4 L R G P) x (3, (P.length : Int)) s := by
  unfold decl mean4
  rw [fx_snoc]
  generalize fx L s = a
  generalize fx R s = b
  generalize fx G s = c
  generalize fx P s = d
  cases a <;> cases b <;> cases c <;> cases d <;> cases eqN x s <;> simp
/-- What names mean in a procedure whose local names these are. -/
def meanU (u : Un) (L : List ByteArray) : ByteArray → Option (Int × Int) := mean4 L (u.recs.map Rc.name) u.globs (u.procs.map Pc.name)
theorem meanU_loc (u : Un) (L : List ByteArray) (x s : ByteArray) (hx : meanU u L x = none) : meanU u (L ++ [x]) s = decl (meanU u L) x (1, (L.length : Int)) s := by
  by_cases h : s = x
  · subst h
    unfold decl
    rw [hx]
    unfold meanU mean4 at hx ⊢
    rw [fx_snoc, eqN_self]
    generalize fx L s = a at hx ⊢
    cases a <;> simp_all
  · unfold decl meanU mean4
    rw [fx_snoc, eqN_ne (fun e => h e.symm)]
    generalize fx L s = a
    generalize fx (u.recs.map Rc.name) s = b
    generalize fx u.globs s = c
    generalize fx (u.procs.map Pc.name) s = d
    cases a <;> cases b <;> cases c <;> cases d <;> simp
theorem meanOf_means (u : Un) (L : List ByteArray) (s : ByteArray) : meanOf (meanU u L) s = means u L s := by
  unfold meanOf meanU mean4 means outer
  cases fx L s with
  | some k => rfl
  | none =>
    cases fx (u.recs.map Rc.name) s with
    | some k => rfl
    | none =>
      cases fx u.globs s with
      | some k => rfl
      | none =>
        cases fx (u.procs.map Pc.name) s with
        | some k => rfl
        | none => rfl
theorem take_map_name {α : Type} (f : α → ByteArray) (l : List α) (k : Nat) (hk : k < l.length) : (l.map f).take (k + 1) = (l.map f).take k ++ [f l[k]] := by
  rw [List.take_succ_eq_append_getElem (by simpa using hk)]
  simp
def OutR (w : World) (b : Nat) (n : Nat) (f : ByteArray → Option (Int × Int)) (wr : World) : Prop := MapM wr b n f ∧ w.grownBy wr (some b)
theorem OutR.is {w wr : World} {b n : Nat} {f : ByteArray → Option (Int × Int)} (h : OutR w b n f wr) {d : D} {v : Value} : True := trivial
theorem is_grown {w w' : World} {d : D} {v : Value} {w0 : World} {b : Nat} (h : Is w0 d v) (hb : Below w0.heap.size w0 w) (hg : w.grownBy w' (some b)) (hB : w0.heap.size ≤ b) : Is w' d v :=
  h.later (hb.trans ⟨hg.os, hg.tape, hg.output, hg.size, fun i hi => hg.block i (Nat.lt_of_lt_of_le hi hb.size) (fun e => by injection e with e; omega)⟩)
theorem below_by {w0 w w' : World} {b : Nat} (hb : Below w0.heap.size w0 w) (hg : w.grownBy w' (some b)) (hB : w0.heap.size ≤ b) : Below w0.heap.size w0 w' :=
  hb.trans ⟨hg.os, hg.tape, hg.output, hg.size, fun i hi => hg.block i (Nat.lt_of_lt_of_le hi hb.size) (fun e => by injection e with e; omega)⟩
/-- How long the names are. -/
def UnNames (u : Un) : Prop := (∀ r ∈ u.recs, r.name.size ≤ maxLen) ∧ (∀ s ∈ u.globs, s.size ≤ maxLen) ∧ (∀ p ∈ u.procs, p.name.size ≤ maxLen) ∧ u.recs.length ≤ 8 ∧ u.globs.length ≤ 12 ∧ u.procs.length ≤ 12
set_option maxRecDepth 100000 in
set_option maxHeartbeats 3200000 in
theorem impl_outside (u : Un) (hu : UnNames u) (w0 : World) (v1 v2 v3 : Value) (h : UnIs w0 u v1 v2 v3) (gu ou : Nat) (c1 : w0.cell? ⟨gu, ou, none⟩ = some v1) (c2 : w0.cell? ⟨gu, ou + 1, none⟩ = some v2) (c3 : w0.cell? ⟨gu, ou + 2, none⟩ = some v3)
    (L : List ByteArray) (b n : Nat) (hn : n ≤ 100000) (hb0 : w0.heap.size ≤ b) (w : World) (hw : Below w0.heap.size w0 w) (hm : MapM w b n (mean4 L [] [] [])) :
    Calls Tryz.prog 51 #[.map (some b), .pointer (some ⟨gu, ou, none⟩)] w (DeclR b (n + 32) (meanU u L) w) := by
  unfold DeclR
  obtain ⟨h1, h2, h3⟩ := h
  obtain ⟨a1, d1, rfl⟩ := is_slice h1
  obtain ⟨a2, d2, rfl⟩ := is_slice h2
  obtain ⟨a3, d3, rfl⟩ := is_slice h3
  have HU := Lib.hid hu
  have HW := Lib.hid hw
  have C1 := Lib.hid (fun W (hW : Below w0.heap.size w0 W) => subw_below hW _ _ _ c1)
  have C2 := Lib.hid (fun W (hW : Below w0.heap.size w0 W) => subw_below hW _ _ _ c2)
  have C3 := Lib.hid (fun W (hW : Below w0.heap.size w0 W) => subw_below hW _ _ _ c3)
  have H1 := Lib.hid h1
  have H2 := Lib.hid h2
  have H3 := Lib.hid h3
  have HST : Hid (OutR w b (n + 0) (mean4 L ((u.recs.map Rc.name).take 0) [] []) w) := Lib.hid ⟨hm, grown_refl _⟩
  have c1 := C1.out w hw
  have hB := Lib.hid hb0
  obtain ⟨l1, l2, l3⟩ := hu.2.2.2
  clear h1 h2 h3 hu hm c2 c3 hb0
  go_enter Tryz.func51, Tryz.ntmps51
  go_wp2
  go_loopw [4, 5, 15] (fun _ _ i wr => ∃ k : Nat, i = .int .i64 k ∧ k ≤ u.recs.length ∧ OutR w b (n + k) (mean4 L ((u.recs.map Rc.name).take k) [] []) wr) (fun _ _ i _ => u.recs.length - (intOf i).toNat)
  case atStart => exact ⟨0, rfl, Nat.zero_le _, HST.out⟩
  case round =>
    clear HST
    obtain ⟨k, rfl, hk, hr⟩ := hrel
    have HR := Lib.hid hr
    have hbw := below_by HW.out hr.2 hB.out
    have HBW := Lib.hid hbw
    clear hr
    by_cases hlt : k < u.recs.length
    · obtain ⟨g, o, rfl, q0, ⟨y1, q1, e1⟩, q2⟩ := rec_at (H1.out.later hbw) k hlt
      obtain ⟨z1, f1, rfl⟩ := is_slice e1
      clear e1
      have k0 : (0 : Int) ≤ (k : Int) := by omega
      have k1 : (k : Int) < u.recs.length := by omega
      have HX := Lib.hid (HU.out.1 u.recs[k] (List.getElem_mem hlt))
      have HT := Lib.hid (take_map_name Rc.name u.recs k hlt)
      have n1 := bl1 wr (.cells #[.string u.recs[k].name, .slice z1 u.recs[k].fields.length f1, .int .i64 u.recs[k].line] 69)
      have VN := Lib.hid (Var.new wr #[.string u.recs[k].name, .slice z1 u.recs[k].fields.length f1, .int .i64 u.recs[k].line] 69)
      have HN1 := Lib.hid (grown_alloc wr (.cells #[.string u.recs[k].name, .slice z1 u.recs[k].fields.length f1, .int .i64 u.recs[k].line] 69) (some b))
      have HLL : Hid ((((u.recs.map Rc.name).take k).length : Int) = (k : Int)) := Lib.hid (by rw [List.length_take, List.length_map]; omega)
      have HC := Lib.hid (impl_declare b (n + k) (mean4 L ((u.recs.map Rc.name).take k) [] []) u.recs[k].name 5 (k : Int) _ (HR.out.1.later n1) HX.out (by unfold maxLen; omega))
      unfold DeclR at HC
      have HE := Lib.hid (fun s => (mean4_rec L ((u.recs.map Rc.name).take k) u.recs[k].name s))
      rw [HLL.out, ← HT.out] at HE
      clear n1 hbw HT HX
      generalize u.recs[k] = x at q0 q1 q2 VN HN1 HC HE
      go_wp2_with fail
      refine HC.out.mono ?_
      rintro e w2 ⟨rfl, hm2, hg2⟩
      have HN2 : Hid (OutR w b (n + (k + 1)) (mean4 L ((u.recs.map Rc.name).take (k + 1)) [] []) w2) := Lib.hid ⟨hm2.congr HE.out, grownr_trans HR.out.2 (grownr_trans HN1.out hg2)⟩
      clear hm2 hg2 q0 q1 q2
      go_wp2
      go_roundw
      case rel => exact ⟨k + 1, by go_num, by omega, HN2.out⟩
      case measure => first | (simp [intOf]; done) | (simp [intOf]; omega)
    · obtain rfl : k = u.recs.length := by omega
      have HR2 : Hid (OutR w b (n + 8 + 0) (mean4 L (u.recs.map Rc.name) (u.globs.take 0) []) wr) := by
        have e : (u.recs.map Rc.name).take u.recs.length = u.recs.map Rc.name := by rw [List.take_of_length_le (by simp)]
        rw [e] at HR
        exact Lib.hid ⟨HR.out.1.mono (by omega), HR.out.2⟩
      have c2 := C2.out wr hbw
      clear HR HBW hbw
      go_wp2
      go_loopw [6, 7, 31] (fun _ _ i wr => ∃ k : Nat, i = .int .i64 k ∧ k ≤ u.globs.length ∧ OutR w b (n + 8 + k) (mean4 L (u.recs.map Rc.name) (u.globs.take k) []) wr) (fun _ _ i _ => u.globs.length - (intOf i).toNat)
      case atStart => exact ⟨0, rfl, Nat.zero_le _, HR2.out⟩
      case round =>
        clear HR2
        obtain ⟨k, rfl, hk, hr⟩ := hrel
        have HR := Lib.hid hr
        have hbw := below_by HW.out hr.2 hB.out
        clear hr
        by_cases hlt : k < u.globs.length
        · obtain ⟨g, o, rfl, q0⟩ := str_at (H2.out.later hbw) k hlt
          have k0 : (0 : Int) ≤ (k : Int) := by omega
          have k1 : (k : Int) < u.globs.length := by omega
          have HLL : Hid (((u.globs.take k).length : Int) = (k : Int)) := Lib.hid (by rw [List.length_take]; omega)
          have HT : Hid (u.globs.take (k + 1) = u.globs.take k ++ [u.globs[k]]) := Lib.hid (List.take_succ_eq_append_getElem hlt)
          have HC := Lib.hid (impl_declare b (n + 8 + k) (mean4 L (u.recs.map Rc.name) (u.globs.take k) []) u.globs[k] 2 (k : Int) wr HR.out.1 (HU.out.2.1 _ (List.getElem_mem hlt)) (by unfold maxLen; omega))
          unfold DeclR at HC
          have HE := Lib.hid (fun s => (mean4_glob L (u.recs.map Rc.name) (u.globs.take k) u.globs[k] s))
          rw [HLL.out, ← HT.out] at HE
          clear hbw HT
          generalize u.globs[k] = x at q0 HC HE
          go_wp2_with fail
          refine HC.out.mono ?_
          rintro e w2 ⟨rfl, hm2, hg2⟩
          have HN2 : Hid (OutR w b (n + 8 + (k + 1)) (mean4 L (u.recs.map Rc.name) (u.globs.take (k + 1)) []) w2) := Lib.hid ⟨hm2.congr HE.out, grownr_trans HR.out.2 hg2⟩
          clear hm2 hg2 q0
          go_wp2
          go_roundw
          case rel => exact ⟨k + 1, by go_num, by omega, HN2.out⟩
          case measure => first | (simp [intOf]; done) | (simp [intOf]; omega)
        · obtain rfl : k = u.globs.length := by omega
          have HR2 : Hid (OutR w b (n + 20 + 0) (mean4 L (u.recs.map Rc.name) u.globs ((u.procs.map Pc.name).take 0)) wr) := by
            rw [List.take_length] at HR
            exact Lib.hid ⟨HR.out.1.mono (by omega), HR.out.2⟩
          have c3 := C3.out wr hbw
          clear HR hbw
          go_wp2
          go_loopw [8, 9, 46] (fun _ _ i wr => ∃ k : Nat, i = .int .i64 k ∧ k ≤ u.procs.length ∧ OutR w b (n + 20 + k) (mean4 L (u.recs.map Rc.name) u.globs ((u.procs.map Pc.name).take k)) wr) (fun _ _ i _ => u.procs.length - (intOf i).toNat)
          case atStart => exact ⟨0, rfl, Nat.zero_le _, HR2.out⟩
          case round =>
            clear HR2
            obtain ⟨k, rfl, hk, hr⟩ := hrel
            have HR := Lib.hid hr
            have hbw := below_by HW.out hr.2 hB.out
            clear hr
            by_cases hlt : k < u.procs.length
            · obtain ⟨g, o, rfl, q0, ⟨y5, q1, e5⟩, ⟨y6, q2, e6⟩, ⟨q3, q4, q5, q6⟩, ⟨y7, q7, e7⟩, q8⟩ := proc_at (H3.out.later hbw) k hlt
              obtain ⟨z5, f5, rfl⟩ := is_slice e5
              obtain ⟨z6, f6, rfl⟩ := is_slice e6
              obtain ⟨z7, f7, rfl⟩ := kids_len e7
              clear e5 e6 e7
              have k0 : (0 : Int) ≤ (k : Int) := by omega
              have k1 : (k : Int) < u.procs.length := by omega
              have HX := Lib.hid (HU.out.2.2.1 u.procs[k] (List.getElem_mem hlt))
              have HT := Lib.hid (take_map_name Pc.name u.procs k hlt)
              have n1 := bl1 wr (.cells #[.string u.procs[k].name, .slice z5 u.procs[k].params.length f5, .slice z6 u.procs[k].locals.length f6, .int .i64 u.procs[k].body.kind, .string u.procs[k].body.text, .int .i64 u.procs[k].body.num, .int .i64 u.procs[k].body.line, .slice z7 u.procs[k].body.kids.length f7, .int .i64 u.procs[k].line] 49)
              have HN1 := Lib.hid (grown_alloc wr (.cells #[.string u.procs[k].name, .slice z5 u.procs[k].params.length f5, .slice z6 u.procs[k].locals.length f6, .int .i64 u.procs[k].body.kind, .string u.procs[k].body.text, .int .i64 u.procs[k].body.num, .int .i64 u.procs[k].body.line, .slice z7 u.procs[k].body.kids.length f7, .int .i64 u.procs[k].line] 49) (some b))
              have HLL : Hid ((((u.procs.map Pc.name).take k).length : Int) = (k : Int)) := Lib.hid (by rw [List.length_take, List.length_map]; omega)
              have HC := Lib.hid (impl_declare b (n + 20 + k) (mean4 L (u.recs.map Rc.name) u.globs ((u.procs.map Pc.name).take k)) u.procs[k].name 3 (k : Int) _ (HR.out.1.later n1) HX.out (by unfold maxLen; omega))
              unfold DeclR at HC
              have HE := Lib.hid (fun s => (mean4_proc L (u.recs.map Rc.name) u.globs ((u.procs.map Pc.name).take k) u.procs[k].name s))
              rw [HLL.out, ← HT.out] at HE
              clear n1 hbw HT HX
              generalize u.procs[k] = x at q0 q1 q2 q3 q4 q5 q6 q7 q8 HN1 HC HE
              go_wp2_with fail
              refine HC.out.mono ?_
              rintro e w2 ⟨rfl, hm2, hg2⟩
              have HN2 : Hid (OutR w b (n + 20 + (k + 1)) (mean4 L (u.recs.map Rc.name) u.globs ((u.procs.map Pc.name).take (k + 1))) w2) := Lib.hid ⟨hm2.congr HE.out, grownr_trans HR.out.2 (grownr_trans HN1.out hg2)⟩
              clear hm2 hg2 q0 q1 q2 q3 q4 q5 q6 q7 q8
              go_wp2
              go_roundw
              case rel => exact ⟨k + 1, by go_num, by omega, HN2.out⟩
              case measure => first | (simp [intOf]; done) | (simp [intOf]; omega)
            · obtain rfl : k = u.procs.length := by omega
              have e : (u.procs.map Pc.name).take u.procs.length = u.procs.map Pc.name := by rw [List.take_of_length_le (by simp)]
              rw [e] at HR
              clear hbw
              go_wp2
              go_end0
              exact ⟨rfl, HR.out.1.mono (by omega), HR.out.2⟩
end Go.Proofs.YtckjmmapekaapaaGreatDoor
/- The reference model: the names that are met in a body. No conditions. -/
namespace Go.Proofs.YtckjmmapekaapaaGreatDoor
open Go.RowKit
set_option linter.unusedVariables false

def RetL (B : Nat) (w : World) (v : Value) (l : List ByteArray) (e : Ending) (w' : World) : Prop := ∃ v', e = .returned v' ∧ Owns w' B v' l ∧ w.grownBy w' v.ownBlock ∧ Moves w v v'
def CollT (u : Un) (w0 : World) (v1 v2 v3 : Value) (t : Ex.T) : Prop := ∀ (acc : List ByteArray) (w : World) (x v : Value), Kids w0 x t.kids → Below w0.heap.size w0 w → Owns w w0.heap.size v acc → acc.length + t.count ≤ 1048576 →
  Calls Tryz.prog 20 #[unV v1 v2 v3, exV t x, v] w (RetL w0.heap.size w v (coll u t acc))
theorem kind_b {k n : Int} (h : k = n) : (k == n) = true := by rw [h]; exact beq_self_eq_true n
theorem kind_nb {k n : Int} (h : k ≠ n) : (k == n) = false := by rw [beq_eq_false_iff_ne]; exact h
theorem coll_new {u : Un} {t : Ex.T} {acc : List ByteArray} (hk : t.kind = 4 ∨ t.kind = 28) (h1 : (outer u t.text).1 = 0) (h2 : fx acc t.text = none) : coll u t acc = acc ++ [t.text] := by
  rw [coll_eq, if_pos (by rcases hk with h | h <;> simp [h]), if_pos (by unfold fresh; rw [h1, h2]; rfl)]
theorem coll_old {u : Un} {t : Ex.T} {acc : List ByteArray} {k : Nat} (hk : t.kind = 4 ∨ t.kind = 28) (h2 : fx acc t.text = some k) : coll u t acc = acc := by
  rw [coll_eq, if_pos (by rcases hk with h | h <;> simp [h]), if_neg (by unfold fresh; rw [h2]; simp)]
theorem coll_out {u : Un} {t : Ex.T} {acc : List ByteArray} (hk : t.kind = 4 ∨ t.kind = 28) (h1 : (outer u t.text).1 ≠ 0) : coll u t acc = acc := by
  rw [coll_eq, if_pos (by rcases hk with h | h <;> simp [h]), if_neg (by unfold fresh; rw [beq_eq_false_iff_ne.2 h1]; simp)]
theorem coll_kids {u : Un} {t : Ex.T} {acc : List ByteArray} (h4 : t.kind ≠ 4) (h28 : t.kind ≠ 28) : coll u t acc = colls u t.kids acc := by
  rw [coll_eq, if_neg (by simp [h4, h28])]
set_option maxRecDepth 100000 in
set_option maxHeartbeats 3200000 in
/-- A name. -/
theorem collect_name (u : Un) (hb : u.bulk ≤ 1048576) (w0 : World) (v1 v2 v3 : Value) (hu : UnIs w0 u v1 v2 v3) (t : Ex.T) (hk : t.kind = 4 ∨ t.kind = 28) : CollT u w0 v1 v2 v3 t := by
  intro acc w x v hx hbl hown hln
  unfold RetL
  have HO := Lib.hid (spec_outer u hb t.text)
  unfold RetII at HO
  obtain ⟨h1, h2, h3⟩ := hu
  have HU := Lib.hid (fun W (hW : Below w0.heap.size w0 W) => (⟨h1.later hW, h2.later hW, h3.later hW⟩ : UnIs W u v1 v2 v3))
  obtain ⟨a1, c1, rfl⟩ := is_slice h1
  obtain ⟨a2, c2, rfl⟩ := is_slice h2
  obtain ⟨a3, c3, rfl⟩ := is_slice h3
  obtain ⟨a4, c4, rfl⟩ := kids_len hx
  obtain ⟨a5, c5, rfl⟩ := owns_slice hown
  have hz := hbl.size
  have hq1 := bl1 w (.cells #[.slice a1 u.recs.length c1, .slice a2 u.globs.length c2, .slice a3 u.procs.length c3] 32)
  have HQ1 := Var.new w #[.slice a1 u.recs.length c1, .slice a2 u.globs.length c2, .slice a3 u.procs.length c3] 32
  obtain ⟨w1, hw1⟩ : ∃ W, w.alloc (.cells #[.slice a1 u.recs.length c1, .slice a2 u.globs.length c2, .slice a3 u.procs.length c3] 32) = W := ⟨_, rfl⟩
  have hz1 : w1.heap.size = w.heap.size + 1 := by rw [← hw1, World.size_alloc]
  rw [hw1] at hq1 HQ1
  have hq2 := bl1 w1 (.cells #[.int .i64 t.kind, .string t.text, .int .i64 t.num, .int .i64 t.line, .slice a4 t.kids.length c4] 47)
  have HQ2 := Var.new w1 #[.int .i64 t.kind, .string t.text, .int .i64 t.num, .int .i64 t.line, .slice a4 t.kids.length c4] 47
  obtain ⟨w2, hw2⟩ : ∃ W, w1.alloc (.cells #[.int .i64 t.kind, .string t.text, .int .i64 t.num, .int .i64 t.line, .slice a4 t.kids.length c4] 47) = W := ⟨_, rfl⟩
  have hz2 : w2.heap.size = w.heap.size + 2 := by rw [← hw2, World.size_alloc, hz1]
  rw [hw2] at hq2 HQ2
  have hq := below_then hq1 hq2
  have HBW := Lib.hid (hbl.trans (hq.mono hz))
  have HW2 := Lib.hid (show (w.alloc (.cells #[.slice a1 u.recs.length c1, .slice a2 u.globs.length c2, .slice a3 u.procs.length c3] 32)).alloc (.cells #[.int .i64 t.kind, .string t.text, .int .i64 t.num, .int .i64 t.line, .slice a4 t.kids.length c4] 47) = w2 by rw [hw1, hw2])
  have HV1 := Lib.hid (HQ1.later hq2)
  rw [hz1] at HQ2
  have HV2 := Lib.hid HQ2
  have HG := Lib.hid (grown_below hq (Value.ownBlock (.slice a5 acc.length c5)))
  have HOW := Lib.hid (owns_later hown hq)
  have HC := Lib.hid (HO.out w2 _ _ _ (HU.out w2 HBW.out))
  have HZ := Lib.hid hz2
  have HZ0 := Lib.hid hz
  have k1 : (t.kind == 4) = true ∨ ((t.kind == 4) = false ∧ (t.kind == 28) = true) := by
    rcases hk with h | h
    · exact .inl (kind_b h)
    · exact .inr ⟨by rw [h]; rfl, kind_b h⟩
  have HK := Lib.hid hk
  have hln2 : acc.length ≤ 1048576 := by omega
  have HLN := Lib.hid hln2
  clear hln hown hq hq1 hq2 HQ1 HQ2 hw1 hw2 hbl hz1 hz2 hz h1 h2 h3 hx hb HO HU hk hln2
  obtain ⟨p, hp⟩ : ∃ p, outer u t.text = p := ⟨_, rfl⟩
  rw [hp] at HC
  have HP := Lib.hid hp
  clear hp
  by_cases h0 : p.1 = 0
  · have t0 : (p.1 == 0) = true := kind_b h0
    rcases hf : fx acc t.text with _ | q
    · have HX := Lib.hid (coll_new HK.out (by rw [HP.out]; exact h0) hf)
      have HFI := Lib.hid (fxI_none hf)
      clear hf h0
      rcases k1 with k1 | ⟨k1, k2⟩
      all_goals
        go_enter Tryz.func20, Tryz.ntmps20
        go_wp2_with fail
        rw [HW2.out]
        have x0 := (HV1.out 0 _ rfl).1
        have x1 := (HV1.out 1 _ rfl).1
        have x2 := (HV1.out 2 _ rfl).1
        have y0 := (HV2.out 0 _ rfl).1
        have y1 := (HV2.out 1 _ rfl).1
        go_wp2_with fail
        refine HC.out.mono ?_
        rintro e w3 ⟨rfl, b3⟩
        have B3 := Lib.hid b3
        have HF := Lib.hid (spec_find _ acc t.text w3 (Is.strs_of_owns (owns_later HOW.out b3)) (by have := HLN.out; omega))
        rw [HFI.out] at HF
        have y1 := ((HV2.out.later b3) 1 _ rfl).1
        clear b3
        go_wp2_with fail
        refine HF.out.mono ?_
        rintro e w4 ⟨rfl, rfl⟩
        have HOW3 := Lib.hid (owns_later HOW.out B3.out)
        have hbn := HBW.out.size
        have hb3 := B3.out.size
        have HLE := Lib.hid (Nat.le_trans hbn hb3)
        clear hbn hb3
        go_wp2_with (at_builtin; refine wpList_append_str (B := w0.heap.size) rfl _ _ rfl rfl (owns_later HOW3.out (bl1 _ _)) ⟨w3.heap.size, 0, none⟩ t.text rfl ?c1 HLN.out ?c2 ?_)
        case c1 => exact new_cell _ _ _ 0 _ rfl
        case c2 => exact Nat.le_trans HLE.out (bl1 _ _).size
        intro g c' w5 ho hg hm
        have HN := Lib.hid (show Owns w5 w0.heap.size (.slice (some ⟨g, 0, none⟩) (acc.length + 1) c') (coll u t acc) by rw [HX.out]; exact ho)
        have HGG := Lib.hid (grown_then (grown_then HG.out (grown_below (below_then B3.out (bl1 _ _)) _) (Moves.refl _ _)) hg (Moves.refl _ _))
        have HM := Lib.hid hm
        clear ho hg hm
        go_wp2
        go_ret
        refine ⟨_, rfl, HN.out, HGG.out, fun b hb => ?_⟩
        obtain rfl : g = b := Option.some.inj hb
        rcases HM.out with h | h
        · exact .inl h
        · right
          have h1 := B3.out.size
          have h2 := HZ.out
          have h3 := (bl1 w3 (.cells #[.string t.text] 9)).size
          omega
    · have HX := Lib.hid (coll_old (u := u) HK.out hf)
      have HFI := Lib.hid (fxI_some hf)
      clear hf h0
      rcases k1 with k1 | ⟨k1, k2⟩
      all_goals
        go_enter Tryz.func20, Tryz.ntmps20
        go_wp2_with fail
        rw [HW2.out]
        have x0 := (HV1.out 0 _ rfl).1
        have x1 := (HV1.out 1 _ rfl).1
        have x2 := (HV1.out 2 _ rfl).1
        have y0 := (HV2.out 0 _ rfl).1
        have y1 := (HV2.out 1 _ rfl).1
        go_wp2_with fail
        refine HC.out.mono ?_
        rintro e w3 ⟨rfl, b3⟩
        have B3 := Lib.hid b3
        have HF := Lib.hid (spec_find _ acc t.text w3 (Is.strs_of_owns (owns_later HOW.out b3)) (by have := HLN.out; omega))
        rw [HFI.out] at HF
        have y1 := ((HV2.out.later b3) 1 _ rfl).1
        clear b3
        go_wp2_with fail
        refine HF.out.mono ?_
        rintro e w4 ⟨rfl, rfl⟩
        go_wp2
        go_ret
        exact ⟨_, rfl, by rw [HX.out]; exact owns_later HOW.out B3.out, grown_then HG.out (grown_below B3.out _) (Moves.refl _ _), Moves.refl _ _⟩
  · have t0 : (p.1 == 0) = false := kind_nb h0
    have HX := Lib.hid (coll_out (acc := acc) HK.out (by rw [HP.out]; exact h0))
    clear h0
    rcases k1 with k1 | ⟨k1, k2⟩
    all_goals
      go_enter Tryz.func20, Tryz.ntmps20
      go_wp2_with fail
      rw [HW2.out]
      have x0 := (HV1.out 0 _ rfl).1
      have x1 := (HV1.out 1 _ rfl).1
      have x2 := (HV1.out 2 _ rfl).1
      have y0 := (HV2.out 0 _ rfl).1
      have y1 := (HV2.out 1 _ rfl).1
      go_wp2_with fail
      refine HC.out.mono ?_
      rintro e w3 ⟨rfl, b3⟩
      have B3 := Lib.hid b3
      clear b3
      go_wp2
      go_ret
      exact ⟨_, rfl, by rw [HX.out]; exact owns_later HOW.out B3.out, grown_then HG.out (grown_below B3.out _) (Moves.refl _ _), Moves.refl _ _⟩
end Go.Proofs.YtckjmmapekaapaaGreatDoor
