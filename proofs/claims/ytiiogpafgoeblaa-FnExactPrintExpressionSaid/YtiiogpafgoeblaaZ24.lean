/- Joined texts: Y13, Y16. No conditions besides those that each states. -/
import Derived.Test.YtiiogpafgoeblaaZ21
import Derived.Test.YtiiogpafgoeblaaZ23
/- The reference model's printer: a case. No conditions. -/
namespace Go.Proofs.Ytiiogpafgoeblaa
open Go.RowKit
set_option linter.unusedVariables false

/-- The cells of a case's variable that are read. -/
def CaseE (w : World) (E : Nat) (v : Value) (n : Int) : Prop := w.cell? ⟨E, 4, none⟩ = some v ∧ w.cell? ⟨E, 2, none⟩ = some (.int .i64 n)
theorem CaseE.later {w w' : World} {E : Nat} {v : Value} {n : Int} (h : CaseE w E v n) (hb : Below w.heap.size w w') : CaseE w' E v n := ⟨subw_below hb _ _ _ h.1, subw_below hb _ _ _ h.2⟩
theorem CaseE.low {w w' : World} {E B : Nat} {v : Value} {n : Int} (h : CaseE w E v n) (hE : E < B) (hb : Below B w w') : CaseE w' E v n := ⟨(hb.cell (p := ⟨E, 4, none⟩) hE).trans h.1, (hb.cell (p := ⟨E, 2, none⟩) hE).trans h.2⟩
theorem owns_first (W : World) (n : Nat) (hn : W.heap.size = n) : Owns (W.alloc (.cells #[] 9)) n (.slice (some ⟨n, 0, none⟩) 0 0) [] := by
  subst hn
  exact World.ownsRow_made W #[] 0 (Nat.le_refl _) (by unfold maxLen; omega) rfl
set_option maxRecDepth 100000 in
set_option maxHeartbeats 6400000 in
theorem node_20 (t : Ex.T) (h : t.kind = 20) (x : Ex.T) (r : List Ex.T) (hks : t.kids = x :: r) (n0 : 0 ≤ t.num) (n1 : t.num ≤ 1) (hpar : ((t.kids.length : Int) - 1 - t.num).tmod 2 = 0) (h1 : AtC x) (z1 : ((str8 (x.fit 1)).size : Int) ≤ 1048576) (hI : ∀ y ∈ r, AtC y) (zI : ∀ y ∈ r, ((str8 (y.fit 1)).size : Int) ≤ 1048576) (hl : r.length ≤ 24) (hb : (Lib.join (Ex.brs (Ex.parts r)) [59, 32]).length ≤ 1048576) : NodeC t := by
  intro w v hk
  unfold RetT
  have HF : Hid ((⟨#[99, 97, 115, 101, 32]⟩ : ByteArray) ++ str8 (x.fit 1) ++ (⟨#[32, 111, 102, 32, 123]⟩ : ByteArray) ++ str8 (Lib.join (Ex.brs (Ex.parts r)) [59, 32]) ++ (⟨#[125]⟩ : ByteArray) = str8 t.form) := Lib.hid (by
    rw [Ex.form_20 t h, hks]
    show _ = str8 ([99, 97, 115, 101, 32] ++ x.fit 1 ++ [32, 111, 102, 32, 123] ++ Lib.join (Ex.brs (Ex.parts r)) [59, 32] ++ [125])
    apply ByteArray.ext
    simp [str8])
  rw [hks] at hk hpar
  obtain ⟨g, o, c, vx, rfl, hcp, ⟨cx, kx⟩, hr⟩ := kids1 hk
  have hlen : (((x :: r).length : Nat) : Int) = (r.length : Int) + 1 := by simp
  rw [hlen] at hpar
  have he := CellsE.new w t (.slice (some ⟨g, o, none⟩) (r.length + 1) c) 45
  rw [h] at he
  have HE0 : Hid (CaseE (w.alloc (.cells #[.int .i64 20, .string t.text, .int .i64 t.num, .int .i64 t.line, .slice (some ⟨g, o, none⟩) (r.length + 1) c] 45)) w.heap.size (.slice (some ⟨g, o, none⟩) (r.length + 1) c) t.num) := Lib.hid ⟨he.2.2.2.2, he.2.2.1⟩
  have H1 := Lib.hid (at_c h1 kx 1)
  have CX := Lib.hid cx
  have HR := Lib.hid hr
  have HI := Lib.hid hI
  have ZI := Lib.hid zI
  have hgl : g < w.heap.size := World.block_lt_of_cell? w _ cx.1
  have HJ : Hid (∀ W vo, StrsAt W vo (brsS r) → Calls Try.prog 69 #[vo, .string ⟨#[59, 32]⟩] W fun e w' => e = .returned (.string (str8 (Lib.join (Ex.brs (Ex.parts r)) [59, 32]))) ∧ Below W.heap.size W w') := Lib.hid (fun W vo hv => by
    have := spec_joined vo (brsS r) ⟨#[59, 32]⟩ W hv (by rw [brsS_data]; exact hb) (by have := brs_count _ r (Nat.le_refl _); omega) (show 2 ≤ 16 by decide)
    rw [brsS_data] at this
    exact this)
  have z2 : ((str8 (Lib.join (Ex.brs (Ex.parts r)) [59, 32])).size : Int) ≤ 1048576 := by rw [str8_size]; omega
  have HT := Lib.hid (fun j hj => brs_step j r hj)
  have HLa := Lib.hid (fun j hj => brs_last j r hj)
  have HEv := Lib.hid (fun j hj => brs_even j r hj)
  have HCN := Lib.hid (Nat.le_trans (brs_count _ r (Nat.le_refl _)) hl)
  have HPAR : Hid ((t.num = 0 → ∃ m, r.length = 2 * m) ∧ (t.num = 1 → ∃ m, r.length = 2 * m + 1)) := Lib.hid (by
    rw [show (r.length : Int) + 1 - 1 - t.num = (r.length : Int) - t.num by omega] at hpar
    constructor
    · intro e; rw [e] at hpar
      exact ⟨r.length / 2, by rw [Int.tmod_eq_emod_of_nonneg (by omega)] at hpar; omega⟩
    · intro e; rw [e] at hpar
      refine ⟨r.length / 2, ?_⟩
      by_cases hz : r.length = 0
      · rw [hz] at hpar; simp at hpar
      · rw [Int.tmod_eq_emod_of_nonneg (by omega)] at hpar; omega)
  generalize str8 (x.fit 1) = s1 at H1 HF z1
  generalize str8 (Lib.join (Ex.brs (Ex.parts r)) [59, 32]) = s2 at HJ HF z2
  have hNL : (1 : Int) ≤ (r.length : Int) + 1 := by omega
  clear hk hks he h1 kx cx hr hI zI hb hpar hlen
  go_enter Try.func40, Try.ntmps40
  go_wp2
  go_loopw [9, 10] (fun vo i wr => ∃ j : Nat, i = .int .i64 ((1 + 2 * j : Nat) : Int) ∧ 2 * j ≤ r.length ∧ Owns wr (w.heap.size + 1) vo ((brsS r).take j) ∧ CaseE wr w.heap.size (.slice (some ⟨g, o, none⟩) (r.length + 1) c) t.num ∧ Below w.heap.size w wr) (fun _ i _ => r.length + 1 - (intOf i).toNat)
  case atStart => exact ⟨0, rfl, by omega, owns_first _ _ (by simp), HE0.out.later (bl1 _ _), below_then (bl1 _ _) (bl1 _ _)⟩
  case round =>
    clear HE0
    obtain ⟨j, rfl, hj, ho, hce, hb⟩ := hrel
    have HO := Lib.hid ho
    have HCE := Lib.hid hce
    have HB := Lib.hid hb
    have hsz := hb.size
    obtain ⟨e4, e2⟩ := hce
    clear ho hb
    by_cases hlt : 2 * j + 1 < r.length
    · have hla : 2 * j < r.length := by omega
      obtain ⟨va, ca, ka⟩ := cells5_of (row_at HR.out (2 * j) hla)
      obtain ⟨vb, cb, kb⟩ := cells5_of (row_at HR.out (2 * j + 1) hlt)
      rw [show o + 5 + 2 * j * 5 = o + (1 + 2 * j) * 5 by omega] at ca
      rw [show o + 5 + (2 * j + 1) * 5 = o + (1 + 2 * j + 1) * 5 by omega] at cb
      have HA := Lib.hid (at_c (HI.out r[2 * j] (List.getElem_mem hla)) ka 1)
      have HBC := Lib.hid (at_c (HI.out r[2 * j + 1] (List.getElem_mem hlt)) kb 1)
      have za := ZI.out r[2 * j] (List.getElem_mem hla)
      have zb := ZI.out r[2 * j + 1] (List.getElem_mem hlt)
      have HN := Lib.hid (HT.out j hlt)
      have ln : ((brsS r).take j).length ≤ 24 := by rw [List.length_take]; have := HCN.out; omega
      have LN := Lib.hid ln
      obtain ⟨n, hn⟩ : ∃ n, 1 + 2 * j = n := ⟨_, rfl⟩
      have HNN := Lib.hid hn
      rw [hn] at ca cb ⊢
      have i0 : (0 : Int) ≤ (n : Int) := by omega
      have i1 : (n : Int) < ((r.length + 1 : Nat) : Int) := by omega
      have i3 : (n : Int) + 1 < (r.length : Int) + 1 := by omega
      have i6 : (n : Int) < (r.length : Int) + 1 := by omega
      have i7 : (0 : Int) ≤ (n : Int) + 1 := by omega
      have i4 : IntKind.i64.wrap ((n : Int) + 1) = (n : Int) + 1 := by rw [IntKind.wrap_i64]; omega
      have i5 : IntKind.i64.wrap ((n : Int) + 2) = (n : Int) + 2 := by rw [IntKind.wrap_i64]; omega
      clear hn
      generalize r[2 * j] = a at ca ka HA za HN
      generalize r[2 * j + 1] = b at cb kb HBC zb HN
      generalize str8 (a.fit 1) = sa at HA za HN
      generalize str8 (b.fit 1) = sb at HBC zb HN
      have c1 := cat_run sa (⟨#[32, 58, 32]⟩ : ByteArray) (by have l0 : (⟨#[32, 58, 32]⟩ : ByteArray).size = 3 := rfl; omega)
      have c2 := cat_run (sa ++ (⟨#[32, 58, 32]⟩ : ByteArray)) sb (by simp only [ByteArray.size_append]; have l0 : (⟨#[32, 58, 32]⟩ : ByteArray).size = 3 := rfl; omega)
      have HS : Hid (∀ W, Below (w.heap.size + 1) wr W → (W.cell? ⟨w.heap.size, 4, none⟩ = some (.slice (some ⟨g, o, none⟩) (r.length + 1) c) ∧ W.cell? ⟨w.heap.size, 2, none⟩ = some (.int .i64 t.num) ∧ W.cell? ⟨g, o + n * 5, none⟩ = some (.int .i64 a.kind) ∧ W.cell? ⟨g, o + n * 5 + 1, none⟩ = some (.string a.text) ∧ W.cell? ⟨g, o + n * 5 + 2, none⟩ = some (.int .i64 a.num) ∧ W.cell? ⟨g, o + n * 5 + 3, none⟩ = some (.int .i64 a.line) ∧ W.cell? ⟨g, o + n * 5 + 4, none⟩ = some (va) ∧ W.cell? ⟨g, o + (n + 1) * 5, none⟩ = some (.int .i64 b.kind) ∧ W.cell? ⟨g, o + (n + 1) * 5 + 1, none⟩ = some (.string b.text) ∧ W.cell? ⟨g, o + (n + 1) * 5 + 2, none⟩ = some (.int .i64 b.num) ∧ W.cell? ⟨g, o + (n + 1) * 5 + 3, none⟩ = some (.int .i64 b.line) ∧ W.cell? ⟨g, o + (n + 1) * 5 + 4, none⟩ = some (vb)) ∧ Below (w.heap.size + 1) wr W) := Lib.hid (fun W hW => by
        have hE := HCE.out.low (Nat.lt_succ_self _) hW
        have cl : ∀ q u, w.cell? ⟨g, q, none⟩ = some u → W.cell? ⟨g, q, none⟩ = some u := fun q u hq => (hW.cell (p := ⟨g, q, none⟩) (show g < w.heap.size + 1 by omega)).trans (subw_below HB.out _ _ _ hq)
        exact ⟨⟨hE.1, hE.2, cl _ _ ca.1, cl _ _ ca.2.1, cl _ _ ca.2.2.1, cl _ _ ca.2.2.2.1, cl _ _ ca.2.2.2.2, cl _ _ cb.1, cl _ _ cb.2.1, cl _ _ cb.2.2.1, cl _ _ cb.2.2.2.1, cl _ _ cb.2.2.2.2⟩, hW⟩)
      have hszn : w.heap.size + 1 ≤ wr.heap.size := by
        rcases HO.out.2 with ⟨_, _⟩ | ⟨g2, cap2, cur, _, hg2, hgg, _⟩
        · have := World.block_lt_of_cell? wr _ HCE.out.1
          exact this
        · have := (Array.getElem?_eq_some_iff.1 hgg).1; omega
      have HZN := Lib.hid hszn
      have HLB : Hid (∀ W, Below (w.heap.size + 1) wr W → Below w.heap.size w W) := Lib.hid (fun W hW => HB.out.trans (hW.mono (Nat.le_succ _)))
      clear ca cb ka kb ln
      go_wp2_with fail
      go_region_held3 (fun W => (W.cell? ⟨w.heap.size, 4, none⟩ = some (.slice (some ⟨g, o, none⟩) (r.length + 1) c) ∧ W.cell? ⟨w.heap.size, 2, none⟩ = some (.int .i64 t.num) ∧ W.cell? ⟨g, o + n * 5, none⟩ = some (.int .i64 a.kind) ∧ W.cell? ⟨g, o + n * 5 + 1, none⟩ = some (.string a.text) ∧ W.cell? ⟨g, o + n * 5 + 2, none⟩ = some (.int .i64 a.num) ∧ W.cell? ⟨g, o + n * 5 + 3, none⟩ = some (.int .i64 a.line) ∧ W.cell? ⟨g, o + n * 5 + 4, none⟩ = some (va) ∧ W.cell? ⟨g, o + (n + 1) * 5, none⟩ = some (.int .i64 b.kind) ∧ W.cell? ⟨g, o + (n + 1) * 5 + 1, none⟩ = some (.string b.text) ∧ W.cell? ⟨g, o + (n + 1) * 5 + 2, none⟩ = some (.int .i64 b.num) ∧ W.cell? ⟨g, o + (n + 1) * 5 + 3, none⟩ = some (.int .i64 b.line) ∧ W.cell? ⟨g, o + (n + 1) * 5 + 4, none⟩ = some (vb)) ∧ Below (w.heap.size + 1) wr W) (first | (with_reducible assumption) | (with_reducible exact HS.out _ (Below.refl _ _).drew) | (with_reducible exact HS.out _ (held_c (by assumption) HZN.out b1)) | (with_reducible exact HS.out _ (held_c (by assumption) HZN.out b2)) | (with_reducible exact HS.out _ (held_c (by assumption) HZN.out (bl1 _ _))) | (with_reducible exact HS.out _ (held_g (by assumption) HZN.out g3 (owns_blk HO.out)))) (first | (go_at_call 66; with_reducible refine (HA.out _ (HLB.out _ (held_b (by assumption)))).mono ?_; rintro e w1 ⟨rfl, b1⟩) | (go_at_call 66; with_reducible refine (HBC.out _ (HLB.out _ (held_b (by assumption)))).mono ?_; rintro e w2 ⟨rfl, b2⟩) | (refine step_append_str (B := w.heap.size + 1) rfl (.tmp 242) (.tmp 258) rfl rfl ((owns_below (w := w1) (owns_below (w := wr.drew) HO.out b1) b2).alloc _) ⟨w2.heap.size, 0, none⟩ (sa ++ (⟨#[32, 58, 32]⟩ : ByteArray) ++ sb) rfl ((new_cell w2 (.string (sa ++ (⟨#[32, 58, 32]⟩ : ByteArray) ++ sb)) 9) 0 _ rfl) (by have := LN.out; omega) (by have q1 : wr.heap.size ≤ w1.heap.size := b1.size; have q2 := b2.size; have q3 := HZN.out; simp; omega) ?_; intro v3 w3 o3 g3))
      have hd0 : Below (w.heap.size + 1) wr wr.drew := (Below.refl _ _).drew
      have hd1 := held_c (p := True) (W := wr.drew) ⟨trivial, hd0⟩ HZN.out b1
      have hd2 := held_c (p := True) ⟨trivial, hd1⟩ HZN.out b2
      have hd3 := held_c (p := True) ⟨trivial, hd2⟩ HZN.out (bl1 w2 (.cells #[.string (sa ++ (⟨#[32, 58, 32]⟩ : ByteArray) ++ sb)] 9))
      have hd4 := held_g (p := True) ⟨trivial, hd3⟩ HZN.out g3 (owns_blk HO.out)
      have HC4 := Lib.hid (HCE.out.low (Nat.lt_succ_self _) hd4)
      have HB4 := Lib.hid (HLB.out _ hd4)
      rw [HN.out] at o3
      have HO4 := Lib.hid o3
      clear hd0 hd1 hd2 hd3 hd4 b1 b2 o3 g3
      go_wp2
      go_roundw
      case rel => exact ⟨j + 1, by rw [← HNN.out]; congr 1 <;> omega, by omega, HO4.out, HC4.out, HB4.out⟩
      case measure => have := HNN.out; first | (simp [intOf]; done) | (simp [intOf]; omega)
    · obtain ⟨n, hn⟩ : ∃ n, 1 + 2 * j = n := ⟨_, rfl⟩
      have HNN := Lib.hid hn
      rw [hn]
      have i0 : (0 : Int) ≤ (n : Int) := by omega
      have i3 : ¬ (n : Int) + 1 < (r.length : Int) + 1 := by omega
      have i8 : (r.length : Int) < (n : Int) + 1 := by omega
      have i4 : IntKind.i64.wrap ((n : Int) + 1) = (n : Int) + 1 := by rw [IntKind.wrap_i64]; omega
      clear hn
      by_cases hn1 : t.num = 1
      · have hb1 : (t.num == 1) = true := by rw [hn1]; rfl
        obtain ⟨m, hm⟩ := HPAR.out.2 hn1
        obtain rfl : j = m := by omega
        have hla : 2 * j < r.length := by omega
        obtain ⟨va, ca, ka⟩ := cells5_of (row_at HR.out (2 * j) hla)
        rw [show o + 5 + 2 * j * 5 = o + r.length * 5 by omega] at ca
        obtain ⟨q0, q1, q2, q3, q4⟩ := ca.later HB.out
        have HA := Lib.hid (at_c (HI.out r[2 * j] (List.getElem_mem hla)) ka 1 wr HB.out)
        have za := ZI.out r[2 * j] (List.getElem_mem hla)
        have HN := Lib.hid (HLa.out j hm)
        have ln : ((brsS r).take j).length ≤ 24 := by rw [List.length_take]; have := HCN.out; omega
        have LN := Lib.hid ln
        have i5 : IntKind.i64.wrap ((r.length : Int) + 1 - 1) = (r.length : Int) := by rw [IntKind.wrap_i64]; omega
        have i6 : (r.length : Int) < (r.length : Int) + 1 := by omega
        have i7 : (0 : Int) ≤ (r.length : Int) := by omega
        clear ca ka ln
        generalize r[2 * j] = a at q0 q1 q2 q3 HA za HN
        clear hm hla
        generalize str8 (a.fit 1) = sa at HA za HN
        have hszn : w.heap.size + 1 ≤ wr.heap.size := World.block_lt_of_cell? wr _ HCE.out.1
        have HZN := Lib.hid hszn
        clear hszn
        obtain ⟨i9, hi, hz0, hz1, hz2⟩ := info_parts info_string
        go_wp2_with fail
        refine HA.out.mono ?_
        rintro e w1 ⟨rfl, b1⟩
        have B1 := Lib.hid (below_then HB.out b1)
        have E1 := Lib.hid (HCE.out.later b1)
        have O1 := Lib.hid (owns_below HO.out b1)
        have Z1 := Lib.hid (Nat.le_trans HZN.out b1.size)
        clear b1 q0 q1 q2 q3 q4 e4 e2
        go_wp2_with (at_builtin; refine wpList_append_own _ rfl _ _ 23 rfl (w.heap.size + 1) 9 i9 (.string ByteArray.empty) 1 16 Try.underlying23 hi hz0 hz1 hz2 rfl (by decide) _ _ _ rfl (O1.out.alloc _) ⟨w1.heap.size, 0, none⟩ 1 1 [.string ((⟨#[100, 101, 102, 97, 117, 108, 116, 32, 58, 32]⟩ : ByteArray) ++ sa)] rfl rfl ?c1 ?c2 ?c3 ?c4 ?c5 ?_)
        case c1 => exact new_cell _ _ _
        case c2 => exact one_string _
        case c3 => have := LN.out; exact max_small (by omega)
        case c4 => have := LN.out; omega
        case c5 => have := Z1.out; simp; omega
        intro v2 w2 hown2 hgrow _
        have ho := owns_app (l := (brsS r).take j) (x := (⟨#[100, 101, 102, 97, 117, 108, 116, 32, 58, 32]⟩ : ByteArray) ++ sa) (by rw [List.length_take, List.map_take]; exact hown2)
        rw [HN.out] at ho
        have HSt : Hid (StrsAt w2 v2 (brsS r)) := Lib.hid (strsAt_owns ho)
        have hd := held_c (p := True) (n := w.heap.size + 1) ⟨trivial, Below.refl _ w1⟩ Z1.out (bl1 w1 (.cells #[.string ((⟨#[100, 101, 102, 97, 117, 108, 116, 32, 58, 32]⟩ : ByteArray) ++ sa)] 9))
        have hd2 := held_g (p := True) ⟨trivial, hd⟩ Z1.out hgrow (owns_blk O1.out)
        have HBt := Lib.hid (B1.out.trans (hd2.mono (Nat.le_succ _)))
        have HCt := Lib.hid (E1.out.low (Nat.lt_succ_self _) hd2)
        clear hown2 hgrow ho hd hd2 hi hz0 hz1 hz2
        obtain ⟨x0, x1, x2, x3, x4⟩ := CX.out.later HBt.out
        have e4 := HCt.out.1
        go_wp2_with fail
        refine (H1.out _ HBt.out).mono ?_
        rintro e w8 ⟨rfl, b8⟩
        have B8 := Lib.hid (below_then HBt.out b8)
        have O8 := Lib.hid (HSt.out.later b8)
        clear b8 x0 x1 x2 x3 x4 e4
        go_wp2_with fail
        refine (HJ.out _ _ O8.out).mono ?_
        rintro e w9 ⟨rfl, b9⟩
        have B9 := Lib.hid (below_then B8.out b9)
        clear b9
        go_wp2
        go_ret
        exact ⟨ret_str HF.out, B9.out⟩
      · have hn0 : t.num = 0 := by omega
        have hb1 : (t.num == 1) = false := by rw [hn0]; rfl
        obtain ⟨m, hm⟩ := HPAR.out.1 hn0
        obtain rfl : j = m := by omega
        have HSt : Hid (StrsAt wr _ (brsS r)) := Lib.hid (by have h9 := strsAt_owns HO.out; rw [HEv.out j hm] at h9; exact h9)
        have HBt := HB
        have HCt := HCE
        clear hm
        obtain ⟨x0, x1, x2, x3, x4⟩ := CX.out.later HBt.out
        have e4 := HCt.out.1
        go_wp2_with fail
        refine (H1.out _ HBt.out).mono ?_
        rintro e w8 ⟨rfl, b8⟩
        have B8 := Lib.hid (below_then HBt.out b8)
        have O8 := Lib.hid (HSt.out.later b8)
        clear b8 x0 x1 x2 x3 x4 e4
        go_wp2_with fail
        refine (HJ.out _ _ O8.out).mono ?_
        rintro e w9 ⟨rfl, b9⟩
        have B9 := Lib.hid (below_then B8.out b9)
        clear b9
        go_wp2
        go_ret
        exact ⟨ret_str HF.out, B9.out⟩
end Go.Proofs.Ytiiogpafgoeblaa
/- The program's printer: words before kids; a case. No conditions. -/
namespace Go.Proofs.Ytiiogpafgoeblaa
open Go.RowKit
set_option linter.unusedVariables false

/-- The parts of a form with a word before each kid. -/
def partsTo (ws : List ByteArray) (ks : List Ex.T) : Nat → List ByteArray
  | 0 => [ws.headD ByteArray.empty]
  | k + 1 => partsTo ws ks k ++ (if k = 0 then [] else [ws.getD k ByteArray.empty]) ++ [str8 ((Ex.nth (Ex.parts ks) k).fit 1)]
theorem partsTo_ne (ws : List ByteArray) (ks : List Ex.T) (k : Nat) : (partsTo ws ks k).map (fun s => s.data.toList) ≠ [] := by
  cases k <;> simp [partsTo]
theorem partsTo_len (ws : List ByteArray) (ks : List Ex.T) : ∀ k, (partsTo ws ks k).length ≤ 2 * k + 1 := by
  intro k
  induction k with
  | zero => simp [partsTo]
  | succ k ih =>
    rw [partsTo, List.length_append, List.length_append]
    split <;> simp <;> omega
theorem parts_join (ws : List ByteArray) (ks : List Ex.T) (hw : 0 < ws.length) : ∀ k, k ≤ ws.length → Lib.join ((partsTo ws ks k).map fun s => s.data.toList) [32] = Ex.wordsTo (bytesL ws) (Ex.parts ks) k := by
  intro k
  induction k with
  | zero =>
    intro _
    cases ws with
    | nil => simp at hw
    | cons a r => rw [partsTo, Ex.wordsTo]; exact Lib.join_one _ _
  | succ k ih =>
    intro hk
    have h1 := ih (by omega)
    have e : (bytesL ws).getD k [] = (ws.getD k ByteArray.empty).data.toList := by
      unfold bytesL
      rw [List.getD_eq_getElem?_getD, List.getElem?_map, List.getD_eq_getElem?_getD]
      cases ws[k]? <;> rfl
    rw [partsTo, Ex.wordsTo]
    by_cases h0 : k = 0
    · rw [if_pos h0, if_pos h0, List.append_nil, List.map_append, List.map_singleton, join_snoc, if_neg (partsTo_ne ws ks k), h1, str8_list, List.append_nil]
    · rw [if_neg h0, if_neg h0, List.map_append, List.map_append, List.map_singleton, List.map_singleton, join_snoc, if_neg (by simp), join_snoc, if_neg (partsTo_ne ws ks k), h1, str8_list, e]
      simp
theorem owns_one (W : World) (n : Nat) (x : ByteArray) (hn : n ≤ W.heap.size) : Owns (W.alloc (.cells #[.string x] 9)) n (.slice (some ⟨W.heap.size, 0, none⟩) 1 1) [x] := World.ownsRow_lit (base := n) (e := 9) (size := 1) W #[.string x] 1 hn (by unfold maxLen; omega) rfl
set_option maxHeartbeats 3200000 in
set_option maxRecDepth 100000 in
theorem impl_words8 (t : Ex.T) (hI : ∀ k (h : k < t.kids.length), FitC t.kids[k]) (h24 : t.kids.length ≤ 24) (ws : List ByteArray) (hw0 : 0 < ws.length) (hw : t.kids.length ≤ ws.length) (hl : ws.length ≤ 24)
    (hb : (Ex.wordsF (bytesL ws) (Ex.parts t.kids)).length ≤ 4194304) (w : World) (g o : Nat) (vw : Value) (ht : TreeAt w g o t) (hws : StrsAt w vw ws) :
    Calls Try.prog 113 #[.pointer (some ⟨g, o, none⟩), vw] w (RetT w (str8 (Ex.wordsF (bytesL ws) (Ex.parts t.kids)))) := by
  unfold RetT
  obtain ⟨i0, hi, hz0, hz1, hz2⟩ := info_parts info_string
  obtain ⟨gw, ow, cw, rfl, hcw, hcell⟩ := strsAt_some hws (fun e => by rw [e] at hw0; simp at hw0)
  have hJe : Lib.join ((partsTo ws t.kids t.kids.length).map fun s => s.data.toList) [32] = Ex.wordsF (bytesL ws) (Ex.parts t.kids) := by
    rw [parts_join ws t.kids hw0 _ hw]; unfold Ex.wordsF; rw [Ex.parts_len]
  have HJ : Hid (∀ W v', StrsAt W v' (partsTo ws t.kids t.kids.length) → Calls Try.prog 86 #[v', .string ⟨#[32]⟩] W fun e w' => e = .returned (.string (str8 (Ex.wordsF (bytesL ws) (Ex.parts t.kids)))) ∧ Below W.heap.size W w') := Lib.hid (fun W v' hv => by
    have h := impl_sjoin v' (partsTo ws t.kids t.kids.length) ⟨#[32]⟩ W hv (by show (Lib.join _ [32]).length ≤ _; rw [hJe]; exact hb) (by have := partsTo_len ws t.kids t.kids.length; omega)
    have h2 : Lib.join ((partsTo ws t.kids t.kids.length).map fun s => s.data.toList) (⟨#[32]⟩ : ByteArray).data.toList = Ex.wordsF (bytesL ws) (Ex.parts t.kids) := hJe
    rw [h2] at h
    exact h)
  generalize str8 (Ex.wordsF (bytesL ws) (Ex.parts t.kids)) = y at HJ ⊢
  have HT := Lib.hid ht
  obtain ⟨⟨e0, e1, e2, e3⟩, v, e4, hkk⟩ := tree_cells ht
  obtain ⟨a, c, rfl⟩ := kids_len hkk
  have HI : Hid (∀ k, (hk : k < t.kids.length) → ∀ W, Below w.heap.size w W → Calls Try.prog 111 #[.pointer (some ⟨g, o, none⟩), .int .i64 k, .int .i64 1] W fun e w' => e = .returned (.string (str8 ((Ex.nth (Ex.parts t.kids) k).fit 1))) ∧ Below W.heap.size W w') := Lib.hid (fun k hk W hW => by
    rw [Ex.nth_at hk, Ex.fit_pk]
    exact impl_kid t k hk h24 (hI k hk) 1 W g o (ht.later hW))
  have HW : Hid (∀ k (hk : k < ws.length), w.cell? ⟨gw, ow + k, none⟩ = some (.string (ws.getD k ByteArray.empty))) := Lib.hid (fun k hk => by
    rw [hcell k hk, List.getD_eq_getElem?_getD, List.getElem?_eq_getElem hk]; rfl)
  have d0 := HW.out 0 hw0
  rw [Nat.add_zero] at d0
  have hd : ws.getD 0 ByteArray.empty = ws.headD ByteArray.empty := by cases ws <;> rfl
  rw [hd] at d0
  have HWL := Lib.hid hw
  have w0 : (0 : Int) < ws.length := by omega
  have HP : Hid (∀ k, partsTo ws t.kids (k + 1) = partsTo ws t.kids k ++ (if k = 0 then [] else [ws.getD k ByteArray.empty]) ++ [str8 ((Ex.nth (Ex.parts t.kids) k).fit 1)]) := Lib.hid (fun k => by rw [partsTo])
  have HP0 : Hid (partsTo ws t.kids 0 = [ws.headD ByteArray.empty]) := Lib.hid rfl
  generalize ws.headD ByteArray.empty = u0 at d0 HP0
  have HO0 := Lib.hid (owns_one w w.heap.size u0 (Nat.le_refl _))
  have e4a := subw_below (bl1 w (.cells #[.string u0] 9)) _ _ _ e4
  have HPL : Hid (∀ k, k ≤ t.kids.length → (partsTo ws t.kids k).length ≤ 49) := Lib.hid (fun k hk => by have := partsTo_len ws t.kids k; omega)
  clear hI hws hcell hb hkk ht hJe hd
  go_enter Try.func113, Try.ntmps113
  go_wp2
  go_loopw [5, 6, 16] (fun vp _ i wr => ∃ k : Nat, i = .int .i64 k ∧ k ≤ t.kids.length ∧ Owns wr w.heap.size vp (partsTo ws t.kids k) ∧ Below w.heap.size w wr) (fun _ _ i _ => t.kids.length - (intOf i).toNat)
  case atStart => exact ⟨0, rfl, Nat.zero_le _, by rw [HP0.out]; exact HO0.out, bl1 _ _⟩
  case round =>
    clear HO0 d0 e4a
    obtain ⟨k, rfl, hk, ho, hb⟩ := hrel
    have HO := Lib.hid ho
    have HB := Lib.hid hb
    have hsz := hb.size
    clear ho hb
    by_cases hlt : k < t.kids.length
    · have hkw : k < ws.length := by have := HWL.out; omega
      have HC := Lib.hid (HI.out k hlt)
      have k0 : (0 : Int) ≤ k := by omega
      have k1 : (k : Int) < t.kids.length := by omega
      have k2 : (k : Int) < ws.length := by omega
      have HPK := Lib.hid (HP.out k)
      have hpl := HPL.out k hk
      generalize str8 ((Ex.nth (Ex.parts t.kids) k).fit 1) = z at HC HPK
      by_cases hk0 : k = 0
      · subst hk0
        rw [if_pos rfl, List.append_nil] at HPK
        go_wp2_with fail
        refine (HC.out _ HB.out).mono ?_
        rintro e w1 ⟨rfl, b1⟩
        have HB1 := Lib.hid (below_then HB.out b1)
        have HO1 := Lib.hid (owns_below HO.out b1)
        have hs1 := HB1.out.size
        clear b1
        go_wp2_with (at_builtin; refine wpList_append_own _ rfl _ _ 23 rfl w.heap.size 9 i0 (.string ByteArray.empty) 1 16 Try.underlying23 hi hz0 hz1 hz2 rfl (by decide) _ _ _ rfl (HO1.out.alloc _) ⟨w1.heap.size, 0, none⟩ 1 1 [.string z] rfl rfl ?c1 ?c2 ?c3 ?c4 ?c5 ?_)
        case c1 => exact new_cell _ _ _
        case c2 => exact one_string _
        case c3 => exact max_small (by omega)
        case c4 => omega
        case c5 => simp; omega
        intro v' w2 hown' hgrow _
        have ho := owns_app hown'
        rw [← HPK.out] at ho
        have HO2 := Lib.hid ho
        have HB2 := Lib.hid (below_app HB1.out HO1.out hgrow)
        clear hown' hgrow ho
        go_wp2
        go_roundw
        case rel => exact ⟨0 + 1, by go_num, by omega, HO2.out, HB2.out⟩
        case measure => first | (simp [intOf]; done) | (simp [intOf]; omega)
      · have k3 : (0 : Int) < k := by omega
        rw [if_neg hk0] at HPK
        have d1 := subw_below HB.out _ _ _ (HW.out k hkw)
        generalize ws.getD k ByteArray.empty = u at d1 HPK
        go_wp2_with (at_builtin; refine wpList_append_own _ rfl _ _ 23 rfl w.heap.size 9 i0 (.string ByteArray.empty) 1 16 Try.underlying23 hi hz0 hz1 hz2 rfl (by decide) _ _ _ rfl (HO.out.alloc _) ⟨wr.heap.size, 0, none⟩ 1 1 [.string u] rfl rfl ?d1 ?d2 ?d3 ?d4 ?d5 ?_)
        case d1 => exact new_cell _ _ _
        case d2 => exact one_string _
        case d3 => exact max_small (by omega)
        case d4 => omega
        case d5 => simp; omega
        intro v' w2 hown' hgrow _
        have HO2 := Lib.hid (owns_app hown')
        have HB2 := Lib.hid (below_app HB.out HO.out hgrow)
        have hpl2 : (partsTo ws t.kids k ++ [u]).length ≤ 50 := by rw [List.length_append]; simp; omega
        clear hown' hgrow d1
        go_wp2_with fail
        refine (HC.out _ HB2.out).mono ?_
        rintro e w3 ⟨rfl, b3⟩
        have HB3 := Lib.hid (below_then HB2.out b3)
        have HO3 := Lib.hid (owns_below HO2.out b3)
        have hs3 := HB3.out.size
        clear b3
        go_wp2_with (at_builtin; refine wpList_append_own _ rfl _ _ 23 rfl w.heap.size 9 i0 (.string ByteArray.empty) 1 16 Try.underlying23 hi hz0 hz1 hz2 rfl (by decide) _ _ _ rfl (HO3.out.alloc _) ⟨w3.heap.size, 0, none⟩ 1 1 [.string z] rfl rfl ?e1 ?e2 ?e3 ?e4 ?e5 ?_)
        case e1 => exact new_cell _ _ _
        case e2 => exact one_string _
        case e3 => exact max_small (by omega)
        case e4 => omega
        case e5 => simp; omega
        intro v4 w4 hown4 hgrow4 _
        have ho4 := owns_app (l := partsTo ws t.kids k ++ [u]) (x := z) (by rw [List.map_append]; simpa using hown4)
        rw [← HPK.out] at ho4
        have HO4 := Lib.hid ho4
        have HB4 := Lib.hid (below_app HB3.out HO3.out hgrow4)
        clear hown4 hgrow4 ho4 hpl2
        go_wp2
        go_roundw
        case rel => exact ⟨k + 1, by go_num, by omega, HO4.out, HB4.out⟩
        case measure => first | (simp [intOf]; done) | (simp [intOf]; omega)
    · obtain rfl : k = t.kids.length := by omega
      have HJ1 := Lib.hid (HJ.out wr _ (strsAt_owns HO.out))
      go_wp2_with fail
      refine HJ1.out.mono ?_
      rintro e w1 ⟨rfl, b1⟩
      have HB1 := Lib.hid (below_then HB.out b1)
      clear b1
      go_wp2
      go_ret
      exact ⟨rfl, HB1.out⟩
end Go.Proofs.Ytiiogpafgoeblaa
