/- Joined texts: U17. No conditions besides those that each states. -/
import Derived.Test.YtiiogpafgoeblaaZ15
/- The reference model's EraseUnitLines: one record. No conditions. -/
namespace Go.Proofs.Ytiiogpafgoeblaa
open Go.RowKit
set_option linter.unusedVariables false

theorem bt_a1 {n bt : Nat} {W0 : World} {o : Obj} (hn : n ≤ W0.heap.size) (hbt : bt < W0.heap.size) : Bt n bt W0 (W0.alloc o).drew := ⟨((bl1 W0 o).drew).mono hn, (bl1 W0 o).block bt hbt⟩
theorem bt_a2 {n bt : Nat} {W0 : World} {o p : Obj} (hn : n ≤ W0.heap.size) (hbt : bt < W0.heap.size) : Bt n bt W0 ((W0.alloc o).alloc p).drew := ⟨((below_then (bl1 W0 o) (bl1 _ p)).drew).mono hn, (below_then (bl1 W0 o) (bl1 _ p)).block bt hbt⟩
/-- A procedure without lines is appended to those that there are. -/
theorem step_proc {B : Nat} {w w7 : World} {x : Pc} {v : Value} {n : Nat} {l : List D} {Fs : List (List Nat)} {z5 z6 z7 : Option Addr} {d5 d6 d7 : Nat} {F5 F6 F7 : List Nat} {ops : Array Oper} {o : Oper} {a : Act} {K : Act → World → Prop} {Q : Exit → Act → World → Prop} {E : Prop} (hgd : o.guard = none) (s y : Operand)
    (ho : o.op = .call { callee := .builtin .append, args := #[s, y], argTypes := #[29, 29] }) (hs : a.eval s = v) (hy : a.eval y = .slice (some ⟨w7.heap.size, 0, none⟩) 1 1) (hap : AppD B w 55 9 v n l Fs) (hb : Below w.heap.size w (w7.alloc (.cells #[.string x.name, .slice z5 x.params.length d5, .slice z6 x.locals.length d6, .int .i64 x.body.erase.kind, .string x.body.erase.text, .int .i64 x.body.erase.num, .int .i64 x.body.erase.line, .slice z7 x.body.erase.kids.length d7, .int .i64 0] 55)))
    (o7 : OwnP (w7.alloc (.cells #[.string x.name, .slice z5 x.params.length d5, .slice z6 x.locals.length d6, .int .i64 x.body.erase.kind, .string x.body.erase.text, .int .i64 x.body.erase.num, .int .i64 x.body.erase.line, .slice z7 x.body.erase.kids.length d7, .int .i64 0] 55)) x.erase (.slice z5 x.params.length d5) (.slice z6 x.locals.length d6) (.slice z7 x.body.erase.kids.length d7) F5 F6 F7) (g7 : Foot w.heap.size (w7.alloc (.cells #[.string x.name, .slice z5 x.params.length d5, .slice z6 x.locals.length d6, .int .i64 x.body.erase.kind, .string x.body.erase.text, .int .i64 x.body.erase.num, .int .i64 x.body.erase.line, .slice z7 x.body.erase.kids.length d7, .int .i64 0] 55)) F5 ∧ Foot w.heap.size (w7.alloc (.cells #[.string x.name, .slice z5 x.params.length d5, .slice z6 x.locals.length d6, .int .i64 x.body.erase.kind, .string x.body.erase.text, .int .i64 x.body.erase.num, .int .i64 x.body.erase.line, .slice z7 x.body.erase.kids.length d7, .int .i64 0] 55)) F6 ∧ Foot w.heap.size (w7.alloc (.cells #[.string x.name, .slice z5 x.params.length d5, .slice z6 x.locals.length d6, .int .i64 x.body.erase.kind, .string x.body.erase.text, .int .i64 x.body.erase.num, .int .i64 x.body.erase.line, .slice z7 x.body.erase.kids.length d7, .int .i64 0] 55)) F7) (hB : B ≤ w.heap.size) (hn : n ≤ 1048577)
    (hK : ∀ w8 g8 c8 Fs8, AppD B w8 55 9 (.slice (some ⟨g8, 0, none⟩) (n + 1) c8) (n + 1) (l ++ x.erase.ds) Fs8 → Below B (w7.alloc (.cells #[.string x.name, .slice z5 x.params.length d5, .slice z6 x.locals.length d6, .int .i64 x.body.erase.kind, .string x.body.erase.text, .int .i64 x.body.erase.num, .int .i64 x.body.erase.line, .slice z7 x.body.erase.kids.length d7, .int .i64 0] 55)) w8 → (∀ b, b < (w7.alloc (.cells #[.string x.name, .slice z5 x.params.length d5, .slice z6 x.locals.length d6, .int .i64 x.body.erase.kind, .string x.body.erase.text, .int .i64 x.body.erase.num, .int .i64 x.body.erase.line, .slice z7 x.body.erase.kids.length d7, .int .i64 0] 55)).heap.size → v.ownBlock ≠ some b → w8.heap[b]? = (w7.alloc (.cells #[.string x.name, .slice z5 x.params.length d5, .slice z6 x.locals.length d6, .int .i64 x.body.erase.kind, .string x.body.erase.text, .int .i64 x.body.erase.num, .int .i64 x.body.erase.line, .slice z7 x.body.erase.kids.length d7, .int .i64 0] 55)).heap[b]?) → K (a.put o.dst (.slice (some ⟨g8, 0, none⟩) (n + 1) c8)) w8) :
    if Region.wanted o (yielded ops a.tmps) = true then Oper.wp Try.prog o a (w7.alloc (.cells #[.string x.name, .slice z5 x.params.length d5, .slice z6 x.locals.length d6, .int .i64 x.body.erase.kind, .string x.body.erase.text, .int .i64 x.body.erase.num, .int .i64 x.body.erase.line, .slice z7 x.body.erase.kids.length d7, .int .i64 0] 55)) K Q else E := by
  obtain ⟨j0, hj, hy0, hy1, hy2⟩ := info_parts info_proc
  have hels := procE_els (B := B) (Fs := Fs) (v := v) o7 g7 hB hap.bounds.1 hap.bounds.2
  refine step_push (B := B) Try.underlying29 hj hy0 hy1 hy2 rfl (by decide) (by decide) hgd s y ho hs (hap.later hb) ⟨w7.heap.size, 0, none⟩ 1 hy [(.str x.name, .string x.name, []), (strsD x.params, .slice z5 x.params.length d5, F5), (strsD x.locals, .slice z6 x.locals.length d6, F6), (.int x.body.erase.kind, .int .i64 x.body.erase.kind, []), (.str x.body.erase.text, .string x.body.erase.text, []), (.int x.body.erase.num, .int .i64 x.body.erase.num, []), (.int x.body.erase.line, .int .i64 x.body.erase.line, []), (.ex x.body.erase.kids, .slice z7 x.body.erase.kids.length d7, F7), (.int 0, .int .i64 0, [])] rfl (new_at w7 _ _ _ rfl) (by simp [D.real]) hels.1 hels.2 hn (Nat.le_trans hB hb.size) ?_
  intro w8 g8 c8 h1 h2 h3
  exact hK w8 g8 c8 _ h1 h2 h3
/-- The loads of the lists that grow. -/
def opR : Oper := { dst := some 20, op := .load 28 (.tmp 19), type := 28, pos := "l07_parser.go:397", after := #[{ on := 0, ground := .data }], guard := none }
def opP : Oper := { dst := some 52, op := .load 29 (.tmp 51), type := 29, pos := "l07_parser.go:401", after := #[{ on := 0, ground := .data }], guard := none }
set_option maxRecDepth 100000 in
set_option maxHeartbeats 25600000 in
theorem spec_eraseunit (u : Un) (hb : u.bulk ≤ 1048576) (w : World) (v1 v2 v3 : Value) (h : UnIs w u v1 v2 v3) : Calls Try.prog 6 #[unV v1 v2 v3] w (MadeU w u.erase) := by
  obtain ⟨i0, hi, hz0, hz1, hz2⟩ := info_parts info_rec
  obtain ⟨j0, hj, hy0, hy1, hy2⟩ := info_parts info_proc
  have h1 := h.1
  have h2 := h.2.1
  have h3 := h.2.2
  obtain ⟨a1, c1, rfl⟩ := is_slice h1
  obtain ⟨a2, c2, rfl⟩ := is_slice h2
  obtain ⟨a3, c3, rfl⟩ := is_slice h3
  have hbb := hb
  unfold Un.bulk recsB procsB at hbb
  have l1 : u.recs.length ≤ 1048576 := by omega
  have l3 : u.procs.length ≤ 1048576 := by omega
  have hbg : strsB u.globs ≤ 1048576 := by omega
  have hlg : u.globs.length ≤ 1048576 := by have := hbg; unfold strsB at this; omega
  have HBU : Hid (wsum Rc.bulk u.recs ≤ 1048576 ∧ wsum Pc.bulk u.procs ≤ 1048576) := Lib.hid (by omega)
  have H1 := Lib.hid h1
  have H2 := Lib.hid h2
  have H3 := Lib.hid h3
  have B2 := Lib.hid (bl2 w (.cells #[.slice a1 u.recs.length c1, .slice a2 u.globs.length c2, .slice a3 u.procs.length c3] 31) (.cells #[.slice none 0 0, .slice none 0 0, .slice none 0 0] 31))
  have VA := Lib.hid ((Var.new w #[.slice a1 u.recs.length c1, .slice a2 u.globs.length c2, .slice a3 u.procs.length c3] 31).later (bl1 _ (.cells #[.slice none 0 0, .slice none 0 0, .slice none 0 0] 31)))
  have VB := Lib.hid (Var.new (w.alloc (.cells #[.slice a1 u.recs.length c1, .slice a2 u.globs.length c2, .slice a3 u.procs.length c3] 31)) #[.slice none 0 0, .slice none 0 0, .slice none 0 0] 31)
  clear h h1 h2 h3 hbb hb hbg
  go_enter Try.func6, Try.ntmps6
  go_wp2_with (at_builtin; go_loud (refine wpList_append_strs rfl (.tmp 7) (.tmp 9) rfl rfl rfl ((H2.out.later B2.out).later (bl1 _ _)) hlg ?_); intro w1 vg Fg og fg bg; obtain ⟨zg, dg, rfl⟩ := own_slice og)
  have n1 := bl1 w1 (.cells #[.slice none 0 0, .slice zg u.globs.length dg, .slice none 0 0] 31)
  have hs1 := bg.size
  have HEU : Hid (EuS w [.slice a1 u.recs.length c1, .slice a2 u.globs.length c2, .slice a3 u.procs.length c3] w1.heap.size (.slice none 0 0) (.slice zg u.globs.length dg) (.slice none 0 0) u.globs Fg (w1.alloc (.cells #[.slice none 0 0, .slice zg u.globs.length dg, .slice none 0 0] 31))) := Lib.hid (by
    have x1 := (((VA.out.later (bl1 _ (.cells #[] 9))).later bg).later n1)
    have x2 := (((VB.out.later (bl1 _ (.cells #[] 9))).later bg).later n1)
    rw [World.size_alloc] at x2
    simp only [World.size_alloc] at hs1 fg
    refine ⟨⟨x1, x2, Var.new w1 _ _⟩, og.later (fun b hb => (fg b hb).2) n1, below_then (below_then (below_then B2.out (bl1 _ _)) bg) n1, ⟨by omega, by simp⟩, fun b hb => ⟨by have := (fg b hb).1; omega, (fg b hb).2⟩⟩)
  have HAP0 : Hid (AppD (w1.heap.size + 1) (w1.alloc (.cells #[.slice none 0 0, .slice zg u.globs.length dg, .slice none 0 0] 31)) 53 3 (.slice none 0 0) 0 [] []) := Lib.hid (AppD.nil _ _ _ _)
  clear og fg bg n1 hs1 VA VB B2
  generalize hb3 : w1.heap.size = b3 at HEU HAP0 ⊢
  clear hb3
  go_wp2
  go_loopw [4] (fun i wr => ∃ (k : Nat) (vr : Value) (Fs : List (List Nat)), i = .int .i64 k ∧ k ≤ u.recs.length ∧ EuS w [.slice a1 u.recs.length c1, .slice a2 u.globs.length c2, .slice a3 u.procs.length c3] b3 vr (.slice zg u.globs.length dg) (.slice none 0 0) u.globs Fg wr ∧ AppD (b3 + 1) wr 53 3 vr k (((u.recs.take k).map Rc.erase).flatMap Rc.ds) Fs) (fun i _ => u.recs.length - (intOf i).toNat)
  case atStart => exact ⟨0, _, [], rfl, Nat.zero_le _, HEU.out, HAP0.out⟩
  case round =>
    clear HEU HAP0
    obtain ⟨k, vr, Fs, rfl, hk, heu, hap⟩ := hrel
    obtain ⟨av, nv, cv, rfl⟩ := hap.slice
    have HEU := Lib.hid heu
    have HAP := Lib.hid hap
    have x0 := (heu.1.1 0 _ rfl).1
    clear hap heu
    by_cases hlt : k < u.recs.length
    · obtain ⟨g, o, rfl, q0, ⟨v5, q1, k5⟩, q2⟩ := rec_at H1.out k hlt
      have hxb : u.recs[k].bulk ≤ 1048576 := by have := wsum_mem Rc.bulk (List.getElem_mem hlt); have := HBU.out.1; omega
      have HTK : Hid (((u.recs.take (k + 1)).map Rc.erase).flatMap Rc.ds = ((u.recs.take k).map Rc.erase).flatMap Rc.ds ++ u.recs[k].erase.ds) := Lib.hid (by rw [List.take_succ_eq_append_getElem hlt, List.map_append, List.flatMap_append]; simp)
      obtain ⟨a5, c5, rfl⟩ := is_slice k5
      have r0 := subw_below HEU.out.2.2.1 _ _ _ q0
      have r1 := subw_below HEU.out.2.2.1 _ _ _ q1
      have K5 := Lib.hid k5
      have glt : g < w.heap.size := World.block_lt_of_cell? w _ q0
      generalize u.recs[k] = x at r0 r1 K5 HTK hxb
      have hlx : x.fields.length ≤ 1048576 := by unfold Rc.bulk strsB at hxb; omega
      have k0 : (0 : Int) ≤ k := by omega
      have k1 : (k : Int) < u.recs.length := by omega
      have hb3 := HEU.out.2.2.2.1
      have HLE : Hid (b3 ≤ wr.heap.size) := Lib.hid (by omega)
      have HS : Hid (∀ W, Below b3 wr W → W.cell? ⟨w.heap.size, 0, none⟩ = some (.slice (some ⟨g, o, none⟩) u.recs.length c1) ∧ W.cell? ⟨g, o + k * 3, none⟩ = some (.string x.name) ∧ W.cell? ⟨g, o + k * 3 + 1, none⟩ = some (.slice a5 x.fields.length c5) ∧ Below b3 wr W) := Lib.hid (fun W hW => ⟨(hW.cell (p := ⟨w.heap.size, 0, none⟩) (show w.heap.size < b3 by omega)).trans x0, (hW.cell (p := ⟨g, o + k * 3, none⟩) (show g < b3 by omega)).trans r0, (hW.cell (p := ⟨g, o + k * 3 + 1, none⟩) (show g < b3 by omega)).trans r1, hW⟩)
      have HI : Hid (∀ W, Below b3 wr W → Is W (strsD x.fields) (.slice a5 x.fields.length c5)) := Lib.hid (fun W hW => K5.out.later (HEU.out.2.2.1.trans (hW.mono (by omega))))
      have p0 := (HEU.out.1.2.2 0 _ rfl).1
      have HB3 := Lib.hid hb3
      clear q0 q1 q2 k5 r0 r1 glt hxb
      go_wp2_with fail
      clear x0
      have eR : opR = { dst := some 20, op := .load 28 (.tmp 19), type := 28, pos := "l07_parser.go:397", after := #[{ on := 0, ground := .data }], guard := none } := rfl
      rw [← eR]
      go_region_held3 (fun w' => w'.cell? ⟨w.heap.size, 0, none⟩ = some (.slice (some ⟨g, o, none⟩) u.recs.length c1) ∧ w'.cell? ⟨g, o + k * 3, none⟩ = some (.string x.name) ∧ w'.cell? ⟨g, o + k * 3 + 1, none⟩ = some (.slice a5 x.fields.length c5) ∧ Below b3 wr w')
        (first | (with_reducible assumption) | (with_reducible exact HS.out _ (held_last (by assumption))) | (with_reducible exact HS.out _ (Below.refl _ _).drew) | (with_reducible exact HS.out _ (held_then (by assumption) HLE.out (bl1 _ _))) | (with_reducible exact HS.out _ (held_then (by assumption) HLE.out hb1)) | (with_reducible exact HS.out _ (held_push (by assumption) hb2)) | (with_reducible exact HS.out _ (held_set (by assumption) (Nat.le_refl _))))
        (first
          | (refine step_append_strs rfl (.tmp 27) (.tmp 33) rfl rfl rfl (HI.out _ (held_last (by assumption))) hlx ?_; intro w5 v5 F5 o5 f5 hb1; obtain ⟨z5, d5, rfl⟩ := own_slice o5; have hl5 := Lib.hid (held_le hb1 (by assumption)); have HA := Lib.hid (below_then (below_then ((Below.refl wr.heap.size wr).drew) (bl1 _ _)) hb1); have O5 := Lib.hid (o5.later (fun b hb => (f5 b hb).2) (bl1 w5 (.cells #[.string x.name, .slice z5 x.fields.length d5, .int .i64 0] 53))); have F5' := Lib.hid (foot_le (W' := w5.alloc (.cells #[.string x.name, .slice z5 x.fields.length d5, .int .i64 0] 53)) f5 hl5.out (by simp)); have p5 := (cell_keep (HA.out.block b3 HB3.out.2) 0).trans p0; have p5b := subw_below (bl1 w5 (.cells #[.string x.name, .slice z5 x.fields.length d5, .int .i64 0] 53)) _ _ _ p5; clear o5 f5)
          | (refine step_push (B := b3 + 1) Try.underlying28 hi hz0 hz1 hz2 rfl (by decide) (by decide) rfl (.tmp 20) (.tmp 36) rfl (by simp [Act.eval]) (HAP.out.later (below_then HA.out (bl1 _ _))) ⟨w5.heap.size, 0, none⟩ 1 (by simp [Act.eval]) [(.str x.name, .string x.name, []), (strsD x.fields, .slice z5 x.fields.length d5, F5), (.int 0, .int .i64 0, [])] rfl (new_at w5 _ _ _ rfl) (by simp [D.real]) (recE_els O5.out F5'.out (by have := HB3.out; omega) HAP.out.bounds.1 HAP.out.bounds.2).1 (recE_els (B := b3 + 1) (Fs := Fs) (v := .slice av nv cv) O5.out F5'.out (by have := HB3.out; omega) HAP.out.bounds.1 HAP.out.bounds.2).2 (by omega) (by have := HB3.out; have := HA.out.size; simp; omega) ?_; intro w8 g8 c8 hap8 hb8 _; have hb2 := hb8.mono (Nat.le_succ b3); have HAP8 := Lib.hid hap8; have EU8 := Lib.hid (HEU.out.mono (((below_then HA.out (bl1 _ _)).mono (by have := HB3.out; omega)).trans hb8)); have p8 := (EU8.out.1.2.2 0 _ rfl).1; have f8 := (EU8.out.1.2.2 0 _ rfl).2; clear hap8 hb8))
      all_goals
        have HNX := Lib.hid (EU8.out.set 0 (.slice (some ⟨g8, 0, none⟩) (k + 1) c8) (.slice (some ⟨g8, 0, none⟩) (k + 1) c8) (.slice none 0 0) rfl)
        have HAX : Hid (AppD (b3 + 1) (w8.setCell ⟨b3, 0, none⟩ (.slice (some ⟨g8, 0, none⟩) (k + 1) c8)) 53 3 (.slice (some ⟨g8, 0, none⟩) (k + 1) c8) (k + 1) (((u.recs.take (k + 1)).map Rc.erase).flatMap Rc.ds) _) := Lib.hid (by rw [HTK.out]; exact HAP8.out.set (Nat.lt_succ_self b3) 0 _)
        clear EU8 HAP8 p8 f8 p5 p5b p0 hb1 hb2 HA O5 F5' hl5 HS HI HTK
        go_wp2
        go_roundw
        case rel => exact ⟨k + 1, _, _, by go_num, by omega, HNX.out, HAX.out⟩
        case measure => first | (simp [intOf]; done) | (simp [intOf]; omega)
    · obtain rfl : k = u.recs.length := by omega
      obtain ⟨F1, hO1, hF1⟩ := HAP.out.done (by decide)
      rw [List.take_length] at hO1
      have HEP : Hid (EuP w [.slice a1 u.recs.length c1, .slice a2 u.globs.length c2, .slice a3 u.procs.length c3] b3 wr.heap.size (.slice av nv cv) (.slice zg u.globs.length dg) (.slice none 0 0) u.globs Fg (u.recs.map Rc.erase) F1 wr) := Lib.hid ⟨HEU.out, by unfold recsD; rw [List.length_map]; exact hO1, fun b hb => ⟨(hF1 b hb).1, (hF1 b hb).2⟩, HEU.out.2.2.2.1.2, Nat.le_refl _⟩
      have HQ0 : Hid (AppD wr.heap.size wr 55 9 (.slice none 0 0) 0 [] []) := Lib.hid (AppD.nil _ _ _ _)
      obtain ⟨vr0, hvr0⟩ : ∃ v : Value, .slice av nv cv = v := ⟨_, rfl⟩
      obtain ⟨B2, hB2⟩ : ∃ n, wr.heap.size = n := ⟨_, rfl⟩
      rw [hvr0, hB2] at HEP
      rw [hB2] at HQ0
      clear hO1 hF1 hvr0 hB2 HEU HAP
      go_wp2
      clear x0
      go_loopw [5] (fun i wr => ∃ (k : Nat) (vp : Value) (Fs : List (List Nat)), i = .int .i64 k ∧ k ≤ u.procs.length ∧ EuP w [.slice a1 u.recs.length c1, .slice a2 u.globs.length c2, .slice a3 u.procs.length c3] b3 B2 vr0 (.slice zg u.globs.length dg) vp u.globs Fg (u.recs.map Rc.erase) F1 wr ∧ AppD B2 wr 55 9 vp k (((u.procs.take k).map Pc.erase).flatMap Pc.ds) Fs) (fun i _ => u.procs.length - (intOf i).toNat)
      case atStart => exact ⟨0, _, [], rfl, Nat.zero_le _, HEP.out, HQ0.out⟩
      case round =>
        clear HEP HQ0
        obtain ⟨k, vp, Fs, rfl, hk, hep, hap⟩ := hrel
        obtain ⟨av, nv, cv, rfl⟩ := hap.slice
        have HEP := Lib.hid hep
        have HAP := Lib.hid hap
        have x2 := (hep.1.1.1 2 _ rfl).1
        clear hap hep
        by_cases hlt : k < u.procs.length
        · obtain ⟨g, o, rfl, q0, ⟨v5, q1, k5⟩, ⟨v6, q2, k6⟩, ⟨q3, q4, q5, q6⟩, ⟨v7, q7, k7⟩, q8⟩ := proc_at H3.out k hlt
          have hxb : u.procs[k].bulk ≤ 1048576 := by have := wsum_mem Pc.bulk (List.getElem_mem hlt); have := HBU.out.2; omega
          have HTK : Hid (((u.procs.take (k + 1)).map Pc.erase).flatMap Pc.ds = ((u.procs.take k).map Pc.erase).flatMap Pc.ds ++ u.procs[k].erase.ds) := Lib.hid (by rw [List.take_succ_eq_append_getElem hlt, List.map_append, List.flatMap_append]; simp)
          obtain ⟨a5, c5, rfl⟩ := is_slice k5
          obtain ⟨a6, c6, rfl⟩ := is_slice k6
          obtain ⟨a7, c7, rfl⟩ := kids_len k7
          have hbw := HEP.out.1.2.2.1
          have r0 := subw_below hbw _ _ _ q0
          have r1 := subw_below hbw _ _ _ q1
          have r2 := subw_below hbw _ _ _ q2
          have r3 := subw_below hbw _ _ _ q3
          have r4 := subw_below hbw _ _ _ q4
          have r5 := subw_below hbw _ _ _ q5
          have r6 := subw_below hbw _ _ _ q6
          have r7 := subw_below hbw _ _ _ q7
          have r8 := subw_below hbw _ _ _ q8
          have K5 := Lib.hid k5
          have K6 := Lib.hid k6
          have K7 := Lib.hid k7
          clear q0 q1 q2 q3 q4 q5 q6 q7 q8 k5 k6 k7 hbw
          generalize u.procs[k] = x at r0 r1 r2 r3 r4 r5 r6 r7 r8 K5 K6 K7 HTK hxb
          unfold Pc.bulk at hxb
          have hl5 : x.params.length ≤ 1048576 := by unfold strsB at hxb; omega
          have hl6 : x.locals.length ≤ 1048576 := by unfold strsB at hxb; omega
          have hb7 : x.body.bulk ≤ 1048576 := by omega
          have k0 : (0 : Int) ≤ k := by omega
          have k1 : (k : Int) < u.procs.length := by omega
          have V9 := Lib.hid (Var.new wr #[.string x.name, .slice a5 x.params.length c5, .slice a6 x.locals.length c6, .int .i64 x.body.kind, .string x.body.text, .int .i64 x.body.num, .int .i64 x.body.line, .slice a7 x.body.kids.length c7, .int .i64 x.line] 55)
          have hb9 := bl1 wr (.cells #[.string x.name, .slice a5 x.params.length c5, .slice a6 x.locals.length c6, .int .i64 x.body.kind, .string x.body.text, .int .i64 x.body.num, .int .i64 x.body.line, .slice a7 x.body.kids.length c7, .int .i64 x.line] 55)
          have hz9 : (wr.alloc (.cells #[.string x.name, .slice a5 x.params.length c5, .slice a6 x.locals.length c6, .int .i64 x.body.kind, .string x.body.text, .int .i64 x.body.num, .int .i64 x.body.line, .slice a7 x.body.kids.length c7, .int .i64 x.line] 55)).heap.size = wr.heap.size + 1 := by simp
          have p0 := subw_below hb9 _ _ _ (HEP.out.1.1.2.2 2 _ rfl).1
          have HB9 := Lib.hid hb9
          have HZ9 := Lib.hid hz9
          clear hxb hb9 hz9
          go_wp2_with fail
          obtain ⟨W9, hW9⟩ : ∃ W, wr.alloc (.cells #[.string x.name, .slice a5 x.params.length c5, .slice a6 x.locals.length c6, .int .i64 x.body.kind, .string x.body.text, .int .i64 x.body.num, .int .i64 x.body.line, .slice a7 x.body.kids.length c7, .int .i64 x.line] 55) = W := ⟨_, rfl⟩
          rw [hW9] at V9 HB9 HZ9 p0 ⊢
          obtain ⟨bt, hbt⟩ : ∃ n, wr.heap.size = n := ⟨_, rfl⟩
          have HBT := Lib.hid hbt
          rw [hbt] at V9 HZ9 ⊢
          clear hW9 hbt x2 r0 r1 r2 r3 r4 r5 r6 r7 r8
          have hz9 := HZ9.out
          have hbb : b3 < B2 ∧ B2 ≤ bt := ⟨HEP.out.2.2.2.1, by rw [← HBT.out]; exact HEP.out.2.2.2.2⟩
          have hw9 : w.heap.size + 2 ≤ b3 := HEP.out.1.2.2.2.1.1
          have HBB := Lib.hid hbb
          have HLE : Hid (b3 ≤ W9.heap.size) := Lib.hid (by omega)
          have HLT : Hid (bt < W9.heap.size) := Lib.hid (by omega)
          have HS : Hid (∀ W, Bt b3 bt W9 W → (W.cell? ⟨bt, 0, none⟩ = some (.string x.name) ∧ W.cell? ⟨bt, 1, none⟩ = some (.slice a5 x.params.length c5) ∧ W.cell? ⟨bt, 2, none⟩ = some (.slice a6 x.locals.length c6) ∧ W.cell? ⟨bt, 3, none⟩ = some (.int .i64 x.body.kind) ∧ W.cell? ⟨bt, 4, none⟩ = some (.string x.body.text) ∧ W.cell? ⟨bt, 5, none⟩ = some (.int .i64 x.body.num) ∧ W.cell? ⟨bt, 6, none⟩ = some (.int .i64 x.body.line) ∧ W.cell? ⟨bt, 7, none⟩ = some (.slice a7 x.body.kids.length c7)) ∧ Bt b3 bt W9 W) := Lib.hid (fun W hW => by
            have V := V9.out.keep hW.2
            exact ⟨⟨(V 0 _ rfl).1, (V 1 _ rfl).1, (V 2 _ rfl).1, (V 3 _ rfl).1, (V 4 _ rfl).1, (V 5 _ rfl).1, (V 6 _ rfl).1, (V 7 _ rfl).1⟩, hW⟩)
          have HW : Hid (∀ W, Bt b3 bt W9 W → Below w.heap.size w W) := Lib.hid (fun W hW => (below_then HEP.out.1.2.2.1 HB9.out).trans (hW.1.mono (by omega)))
          have HE := Lib.hid (fun W hW => spec_erase _ x.body (Nat.le_refl _) hb7 W _ (K7.out.later (HW.out W hW)))
          unfold RetE at HE
          have hnb : ∀ b, (Value.slice av nv cv).ownBlock = some b → b < wr.heap.size := HAP.out.bounds.2
          have HNB := Lib.hid hnb
          have HAP9 := Lib.hid (HAP.out.later HB9.out)
          have HPB : Hid (B2 ≤ W9.heap.size) := Lib.hid (by omega)
          have HPN : Hid (k ≤ 1048577) := Lib.hid (by omega)
          clear hb7 hbb hw9 hz9 hnb
          have p0b := subw_below (bl1 W9 (.cells #[] 9)) _ _ _ p0
          have p0c := subw_below (bl1 (W9.alloc (.cells #[] 9)) (.cells #[] 9)) _ _ _ p0b
          have eP : opP = { dst := some 52, op := .load 29 (.tmp 51), type := 29, pos := "l07_parser.go:401", after := #[{ on := 0, ground := .data }], guard := none } := rfl
          rw [← eP]
          go_region_held3 (fun w' => (w'.cell? ⟨bt, 0, none⟩ = some (.string x.name) ∧ w'.cell? ⟨bt, 1, none⟩ = some (.slice a5 x.params.length c5) ∧ w'.cell? ⟨bt, 2, none⟩ = some (.slice a6 x.locals.length c6) ∧ w'.cell? ⟨bt, 3, none⟩ = some (.int .i64 x.body.kind) ∧ w'.cell? ⟨bt, 4, none⟩ = some (.string x.body.text) ∧ w'.cell? ⟨bt, 5, none⟩ = some (.int .i64 x.body.num) ∧ w'.cell? ⟨bt, 6, none⟩ = some (.int .i64 x.body.line) ∧ w'.cell? ⟨bt, 7, none⟩ = some (.slice a7 x.body.kids.length c7)) ∧ Bt b3 bt W9 w')
            (first | (with_reducible assumption) | (with_reducible exact HS.out _ (bt_last (by assumption))) | (with_reducible exact HS.out _ bt_start) | (with_reducible exact HS.out _ (bt_a1 HLE.out HLT.out)) | (with_reducible exact HS.out _ (bt_a2 HLE.out HLT.out)) | (with_reducible exact HS.out _ (bt_then (by assumption) HLE.out HLT.out (bl1 _ _))) | (with_reducible exact HS.out _ (bt_then (by assumption) HLE.out HLT.out hb5)) | (with_reducible exact HS.out _ (bt_then (by assumption) HLE.out HLT.out hb6)) | (with_reducible exact HS.out _ (bt_then (by assumption) HLE.out HLT.out hbe)) | (with_reducible exact HS.out _ (bt_push (by assumption) hb2 hk2)) | (with_reducible exact HS.out _ (bt_set (by assumption) (Nat.le_refl _) (by have := HBB.out; omega))))
            (first
              | (have _g := hbe; refine step_proc (B := B2) rfl (.tmp 52) (.tmp 67) rfl rfl rfl HAP9.out HA8.out O7.out G7.out HPB.out HPN.out ?_; intro w8 g8 c8 Fs8 hap8 hb8 hk8; have hb2 := hb8.mono (Nat.le_of_lt HBB.out.1); have hk2 := hk8 bt (Nat.lt_of_lt_of_le HLT.out HA8.out.size) (fun h => by have := HNB.out bt h; rw [HBT.out] at this; omega); have HAP8 := Lib.hid hap8; have EU8 := Lib.hid (HEP.out.mono (((below_then HB9.out HA8.out).mono (by have := HBB.out; have := HBT.out; omega)).trans hb8)); have p8 := (EU8.out.1.1.2.2 2 _ rfl).1; have f8 := (EU8.out.1.1.2.2 2 _ rfl).2; clear hap8 hb8 hk8)
              | (have _g := hb5; refine step_append_strs rfl (.tmp 59) (.tmp 61) rfl rfl rfl (K6.out.later (HW.out _ (bt_last (by assumption)))) hl6 ?_; intro w6 v6 F6 o6 f6 hb6; obtain ⟨z6, d6, rfl⟩ := own_slice o6; have HS6 : Hid (Below w5.heap.size w5 w6) := (by first | (with_reducible exact Lib.hid hb6) | (with_reducible exact Lib.hid (below_then (bl1 _ _) hb6))); have A56 : Hid (Apart F5 F6) := (by first | (with_reducible exact Lib.hid (apart_foot G5.out f6 (Nat.le_refl _))) | (with_reducible exact Lib.hid (apart_foot G5.out f6 (bl1 w5 _).size))); have G6 : Hid (Foot W9.heap.size w6 F6) := (by first | (with_reducible exact Lib.hid (foot_le f6 HA5.out.size (Nat.le_refl _))) | (with_reducible exact Lib.hid (foot_le f6 (below_then HA5.out (bl1 _ _)).size (Nat.le_refl _)))); have O6 := Lib.hid o6; have HA6 := Lib.hid (below_then HA5.out HS6.out); have p6 := subw_below HA6.out _ _ _ p0; clear o6 f6)
              | (go_at_call 20; refine (HE.out _ (bt_last (by assumption))).mono ?_; rintro e w7 ⟨v7, F7, rfl, o7, f7, hbe⟩; obtain ⟨z7, d7, rfl⟩ := kids_len (OwnK.kids _ o7); have A57 := Lib.hid (apart_foot (foot_le G5.out (Nat.le_refl _) HS6.out.size) f7 (Nat.le_refl _)); have A67 := Lib.hid (apart_foot G6.out f7 (Nat.le_refl _)); have HA7 := Lib.hid (below_then HA6.out hbe); have n7 := bl1 w7 (.cells #[.string x.name, .slice z5 x.params.length d5, .slice z6 x.locals.length d6, .int .i64 x.body.erase.kind, .string x.body.erase.text, .int .i64 x.body.erase.num, .int .i64 x.body.erase.line, .slice z7 x.body.erase.kids.length d7, .int .i64 0] 55); have O7 := Lib.hid (OwnP.mk7 (x := x) (((O5.out.later (fun b hb => (G5.out b hb).2) HS6.out).later (fun b hb => Nat.lt_of_lt_of_le (G5.out b hb).2 HS6.out.size) hbe).later (fun b hb => Nat.lt_of_lt_of_le (Nat.lt_of_lt_of_le (G5.out b hb).2 HS6.out.size) hbe.size) n7) ((O6.out.later (fun b hb => (G6.out b hb).2) hbe).later (fun b hb => Nat.lt_of_lt_of_le (G6.out b hb).2 hbe.size) n7) ((own_ex o7).later (fun b hb => (f7 b hb).2) n7) A56.out A57.out A67.out); have G7 := Lib.hid (And.intro (foot_le G5.out (Nat.le_refl W9.heap.size) (Nat.le_trans HS6.out.size (Nat.le_trans hbe.size n7.size))) (And.intro (foot_le G6.out (Nat.le_refl W9.heap.size) (Nat.le_trans hbe.size n7.size)) (foot_le f7 HA6.out.size n7.size))); have HA8 := Lib.hid (below_then HA7.out n7); have p7 := subw_below HA7.out _ _ _ p0; have p7b := subw_below HA8.out _ _ _ p0; clear o7 f7 n7 O5 G5 O6 G6)
              | (refine step_append_strs rfl (.tmp 55) (.tmp 57) rfl rfl rfl (K5.out.later (HW.out _ (bt_last (by assumption)))) hl5 ?_; intro w5 v5 F5 o5 f5 hb5; obtain ⟨z5, d5, rfl⟩ := own_slice o5; have HA5 : Hid (Below W9.heap.size W9 w5) := (by first | (with_reducible exact Lib.hid (below_then ((bl1 W9 _).drew) hb5)) | (with_reducible exact Lib.hid (below_then ((below_then (bl1 W9 _) (bl1 _ _)).drew) hb5))); have O5 := Lib.hid o5; have G5 : Hid (Foot W9.heap.size w5 F5) := (by first | (with_reducible exact Lib.hid (foot_le f5 ((bl1 W9 _).drew).size (Nat.le_refl _))) | (with_reducible exact Lib.hid (foot_le f5 ((below_then (bl1 W9 _) (bl1 _ _)).drew).size (Nat.le_refl _)))); have p5 := subw_below HA5.out _ _ _ p0; have p5b := subw_below (bl1 w5 (.cells #[] 9)) _ _ _ p5; clear o5 f5))
          all_goals
            have HNX := Lib.hid (EU8.out.set (.slice (some ⟨g8, 0, none⟩) (k + 1) c8))
            have HAX : Hid (AppD B2 (w8.setCell ⟨b3, 2, none⟩ (.slice (some ⟨g8, 0, none⟩) (k + 1) c8)) 55 9 (.slice (some ⟨g8, 0, none⟩) (k + 1) c8) (k + 1) (((u.procs.take (k + 1)).map Pc.erase).flatMap Pc.ds) _) := Lib.hid (by rw [HTK.out]; exact HAP8.out.set HBB.out.1 2 _)
            clear EU8 HAP8 p8 f8 p7 p7b p6 p5 p5b p0 p0b p0c hb2 hk2 hb5 hb6 hbe HS HTK
            go_wp2
            go_roundw
            case rel => exact ⟨k + 1, _, _, by go_num, by omega, HNX.out, HAX.out⟩
            case measure => first | (simp [intOf]; done) | (simp [intOf]; omega)
        · obtain rfl : k = u.procs.length := by omega
          obtain ⟨F3, hO3, hF3⟩ := HAP.out.done (by decide)
          rw [List.take_length] at hO3
          have HO3 := Lib.hid hO3
          have HF3 := Lib.hid hF3
          have g0 := (HEP.out.1.1.2.2 0 _ rfl).1
          have g1 := (HEP.out.1.1.2.2 1 _ rfl).1
          have g2 := (HEP.out.1.1.2.2 2 _ rfl).1
          have e0 := HEP.out.1.1.2.1 0 _ rfl
          have e1 := HEP.out.1.1.2.1 1 _ rfl
          have e2 := HEP.out.1.1.2.1 2 _ rfl
          obtain ⟨e0, f0⟩ := e0
          obtain ⟨e1, f1⟩ := e1
          obtain ⟨e2, f2⟩ := e2
          obtain ⟨ar, cr, hvr⟩ := own_slice HEP.out.2.1
          subst hvr
          clear hO3 hF3
          go_wp2
          have hw2 : ∀ b, w.heap.size + 2 ≤ b → b ≠ w.heap.size + 1 := fun b h => by omega
          have hG := HEP.out.1.2.2.2.2
          have hR := HEP.out.2.2.1
          have hB := HEP.out.1.2.2.2.1
          have hBB := HEP.out.2.2.2
          refine bodyPost_ret (v := unV (.slice ar (u.recs.map Rc.erase).length cr) (.slice zg u.globs.length dg) (.slice av nv cv)) (by simp [results, Try.results6, go_sem, e0, e1, e2]) rfl ⟨_, _, _, F1, Fg, F3, rfl, ⟨⟨?_, ?_, ?_⟩, ?_, ?_, ?_⟩, ⟨fun b hb => ?_, fun b hb => ?_, fun b hb => ?_⟩, ?_⟩
          · exact Own.keep _ _ _ (fun b hb => by have := (hR b hb).1; repeat rw [set_keep (show b ≠ w.heap.size + 1 by omega)]) HEP.out.2.1
          · exact Own.keep _ _ _ (fun b hb => by have := (hG b hb).1; repeat rw [set_keep (show b ≠ w.heap.size + 1 by omega)]) HEP.out.1.2.1
          · have h9 := HO3.out
            have e9 : procsD u.erase.procs = .row u.procs.length ((u.procs.map Pc.erase).flatMap Pc.ds) := by show D.row (u.procs.map Pc.erase).length _ = _; rw [List.length_map]; rfl
            rw [e9]
            exact Own.keep _ _ _ (fun b hb => by have := (HF3.out b hb).1; repeat rw [set_keep (show b ≠ w.heap.size + 1 by omega)]) h9
          · exact fun b h1 h2 => by have := (hR b h1).1; have := (hG b h2).2; omega
          · exact fun b h1 h2 => by have := (hR b h1).2; have := (HF3.out b h2).1; omega
          · exact fun b h1 h2 => by have := (hG b h1).2; have := (HF3.out b h2).1; omega
          · have := hR b hb
            simp only [set_size]
            omega
          · have := hG b hb
            simp only [set_size]
            omega
          · have := HF3.out b hb
            simp only [set_size]
            omega
          · repeat (refine Below.setCell ?_ (Nat.le_succ _) _)
            exact HEP.out.1.2.2.1
end Go.Proofs.Ytiiogpafgoeblaa
