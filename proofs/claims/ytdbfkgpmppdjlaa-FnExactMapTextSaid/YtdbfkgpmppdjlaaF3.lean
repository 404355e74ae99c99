/- MapText of the program, and the walk of the law on it. No conditions. -/
import Derived.Test.YtdbfkgpmppdjlaaF1
import Derived.Test.YtdbfkgpmppdjlaaF2
import Derived.Deep.RegionLaw
namespace Go.Proofs.Ytdbfkgpmppdjlaa
open Go.RowKit Go.Sort
set_option linter.unusedVariables false

/-- An array of 256 bytes of the call's own. -/
def Tab (w : World) (base g : Nat) (m : Nat → UInt8) : Prop := w.ownsRow base 57 1 (.slice (some ⟨g, 0, none⟩) 256 256) 256 ((List.range 256).map fun j => Value.int .u8 ((m j).toNat : Int))
theorem tab_cell {w : World} {base g : Nat} {m : Nat → UInt8} (h : Tab w base g m) (j : Nat) (hj : j < 256) : w.cell? ⟨g, j, none⟩ = some (.int .u8 ((m j).toNat : Int)) ∧ w.frozen? ⟨g, j, none⟩ = false := by
  refine ⟨(World.ownsRow.cellAt h j (by omega)).trans ?_, World.ownsRow.frozenAt h j⟩
  rw [List.getElem?_map, List.getElem?_range hj]; rfl
theorem tab_congr {w : World} {base g : Nat} {m m' : Nat → UInt8} (h : Tab w base g m) (he : ∀ j, j < 256 → m j = m' j) : Tab w base g m' := by
  unfold Tab at h ⊢
  rw [← List.map_congr_left (f := fun j => Value.int .u8 ((m j).toNat : Int)) (fun j hj => by rw [he j (List.mem_range.1 hj)])]
  exact h
theorem tab_set {w : World} {base g : Nat} {m : Nat → UInt8} (h : Tab w base g m) (k : Nat) (hk : k < 256) (x : UInt8) : Tab (w.setCell ⟨g, k, none⟩ (.int .u8 (x.toNat : Int))) base g (fun j => if j = k then x else m j) := by
  have e := (World.ownsRow.stored h k (.int .u8 (x.toNat : Int))).1
  have hs : ((List.range 256).map fun j => Value.int .u8 ((m j).toNat : Int)).set k (.int .u8 (x.toNat : Int)) = (List.range 256).map fun j => Value.int .u8 (((if j = k then x else m j) : UInt8).toNat : Int) := by
    apply List.ext_getElem
    · simp
    · intro j h1 h2
      rw [List.getElem_set]
      simp only [List.getElem_map, List.getElem_range]
      by_cases hjk : j = k
      · subst hjk; simp
      · rw [if_neg (by omega), if_neg hjk]
  rw [hs] at e
  exact e
theorem tab_below {w w1 : World} {base g : Nat} {m : Nat → UInt8} (h : Tab w base g m) (hb : Below w.heap.size w w1) : Tab w1 base g m := by
  refine ⟨h.1, ?_⟩
  rcases h.2 with hn | ⟨g, cap, cur, hv, hg, hgg, r⟩
  · exact .inl hn
  · exact .inr ⟨g, cap, cur, hv, hg, by rw [hb.block g (Array.getElem?_eq_some_iff.1 hgg).1]; exact hgg, r⟩
theorem tab_lt {w : World} {base g : Nat} {m : Nat → UInt8} (h : Tab w base g m) : base ≤ g ∧ g < w.heap.size := World.ownsRow.lt h g rfl
theorem zero_tab : Try.zeroCells57.toList = (List.range 256).map fun j => Value.int .u8 (((fun _ => 0 : Nat → UInt8) j).toNat : Int) := by kernel_rfl
theorem tab_new (w : World) : Tab (w.alloc (.cells Try.zeroCells57 57)) w.heap.size w.heap.size (fun _ => 0) := by
  have h := World.ownsRow_lit (base := w.heap.size) (e := 57) (size := 1) w Try.zeroCells57 256 (Nat.le_refl _) (by unfold maxLen; omega) (by kernel_rfl)
  rw [zero_tab] at h
  exact h
theorem of_nat8 (x : UInt8) : UInt8.ofNat x.toNat = x := UInt8.ofNat_toNat
theorem nat8 {k : Nat} (h : k < 256) : ((UInt8.ofNat k).toNat : Int) = k := by
  rw [UInt8.toNat_ofNat']; omega
/-- The two tables' steps. -/
theorem tab_id {w : World} {base g k : Nat} (h : Tab w base g (fun j => if j < k then UInt8.ofNat j else 0)) (hk : k < 256) : Tab (w.setCell ⟨g, k, none⟩ (.int .u8 k)) base g (fun j => if j < k + 1 then UInt8.ofNat j else 0) := by
  have e := tab_set h k hk (UInt8.ofNat k)
  rw [nat8 hk] at e
  refine tab_congr e fun j hj => ?_
  by_cases hjk : j = k
  · subst hjk; simp
  · rw [if_neg hjk]
    by_cases hlt : j < k
    · rw [if_pos hlt, if_pos (by omega)]
    · rw [if_neg hlt, if_neg (by omega)]
theorem tab_pick {w : World} {base g k : Nat} {f t : ByteArray} (h : Tab w base g (fun j => pickB f.data.toList t.data.toList (UInt8.ofNat j) k)) (hf : k < f.size) (ht : k < t.size) : Tab (w.setCell ⟨g, f[k].toNat, none⟩ (.int .u8 (t[k].toNat : Int))) base g (fun j => pickB f.data.toList t.data.toList (UInt8.ofNat j) (k + 1)) := by
  refine tab_congr (tab_set h f[k].toNat (UInt8.toNat_lt _) t[k]) fun j hj => ?_
  by_cases hjk : j = f[k].toNat
  · subst hjk
    rw [if_pos rfl, pick_yes f t _ k hf ht (of_nat8 _).symm]
  · rw [if_neg hjk, pick_no f t _ k hf]
    intro e
    apply hjk
    rw [e, UInt8.toNat_ofNat']; omega

/-- The text with its first k bytes replaced. -/
def dkA (s f t : ByteArray) (k : Nat) : Array UInt8 := (mapL s f t k ++ s.data.toList.drop k).toArray
theorem dk_size (s f t : ByteArray) (k : Nat) (h : k ≤ s.size) : (dkA s f t k).size = s.size := by
  unfold dkA
  rw [List.size_toArray, List.length_append, mapL_len s f t k h, List.length_drop, len8]; omega
theorem dk_zero (s f t : ByteArray) : dkA s f t 0 = s.data := by
  unfold dkA mapL; simp
theorem dk_end (s f t : ByteArray) : (dkA s f t s.size).toList = mapL s f t s.size := by
  unfold dkA
  rw [List.toList_toArray, List.drop_eq_nil_of_le (by rw [len8]; exact Nat.le_refl _), List.append_nil]
theorem dk_at (s f t : ByteArray) (k : Nat) (h : k < s.size) : (dkA s f t k)[k]! = s[k] := by
  have h2 : k < (dkA s f t k).size := by rw [dk_size s f t k (by omega)]; exact h
  have h3 : k < s.data.toList.length := h
  have e : (dkA s f t k)[k]? = some s[k] := by
    unfold dkA
    rw [List.getElem?_toArray, List.getElem?_append_right (by rw [mapL_len s f t k (by omega)]; exact Nat.le_refl _), mapL_len s f t k (by omega), Nat.sub_self, List.getElem?_drop, Nat.add_zero, List.getElem?_eq_getElem h3]; rfl
  obtain ⟨_, e2⟩ := Array.getElem?_eq_some_iff.1 e
  rw [getElem!_pos _ k h2]; exact e2
theorem dk_set (s f t : ByteArray) (k : Nat) (h : k < s.size) : (dkA s f t k).setIfInBounds k (pickB f.data.toList t.data.toList s[k] f.size) = dkA s f t (k + 1) := by
  have h2 : k < s.data.toList.length := h
  unfold dkA
  rw [List.setIfInBounds_toArray, List.set_append_right _ _ (by rw [mapL_len s f t k (by omega)]; exact Nat.le_refl _), mapL_len s f t k (by omega), Nat.sub_self, List.drop_eq_getElem_cons h2, List.set_cons_zero, ← mapL_succ s f t k h]
  simp

set_option maxHeartbeats 1600000 in
theorem impl_map (s f t : ByteArray) (w : World) (hs : (s.size : Int) ≤ 1048576) (hf : (f.size : Int) ≤ 1048576) (he : t.size = f.size) : Calls Try.prog 37 #[.string s, .string f, .string t] w fun e w' => e = .returned (.tuple #[.string (str8 (mapL s f t s.size)), .bool true]) ∧ Below w.heap.size w w' := by
  have he2 : (t.size : Int) = f.size := by omega
  have HT0 := Lib.hid (tab_new w)
  generalize hr : str8 (mapL s f t s.size) = r
  have HR := Lib.hid hr
  clear hr
  go_enter Try.func37, Try.ntmps37
  go_wp2
  go_loopw [9, 19] (fun _ i wr => ∃ k : Nat, i = .int .i64 k ∧ k ≤ 256 ∧ Tab wr w.heap.size w.heap.size (fun j => if j < k then UInt8.ofNat j else 0) ∧ Below w.heap.size w wr) (fun _ i _ => 256 - (intOf i).toNat)
  case atStart => exact ⟨0, rfl, by omega, tab_congr HT0.out (fun j hj => by simp), bl1 _ _⟩
  case round =>
    clear HT0
    obtain ⟨k, rfl, hk, ht, hb⟩ := hrel
    have HT := Lib.hid ht
    have HB := Lib.hid hb
    clear ht hb
    by_cases hlt : (k : Int) < 256
    · obtain ⟨c0, f0⟩ := tab_cell HT.out k (by omega)
      have HT2 := Lib.hid (tab_id HT.out (by omega))
      have HB2 := Lib.hid (HB.out.setCell (p := ⟨w.heap.size, k, none⟩) (Nat.le_refl _) (.int .u8 k))
      go_wp2
      go_roundw
      case rel => exact ⟨k + 1, by go_num, by omega, HT2.out, HB2.out⟩
      case measure => first | (simp [intOf]; done) | (simp [intOf]; omega)
    · obtain rfl : k = 256 := by omega
      have HT1 := Lib.hid (tab_congr (m' := fun j => pickB f.data.toList t.data.toList (UInt8.ofNat j) 0) HT.out (fun j hj => by simp [hj, pickB]))
      clear HT
      go_wp2
      go_loopw [10, 29] (fun _ i wx => ∃ k : Nat, i = .int .i64 k ∧ k ≤ f.size ∧ Tab wx w.heap.size w.heap.size (fun j => pickB f.data.toList t.data.toList (UInt8.ofNat j) k) ∧ Below w.heap.size w wx) (fun _ i _ => f.size - (intOf i).toNat)
      case atStart => exact ⟨0, rfl, by omega, HT1.out, HB.out⟩
      case round =>
        clear HT1 HB
        obtain ⟨k, rfl, hk, ht, hb⟩ := hrel
        have HT := Lib.hid ht
        have HB := Lib.hid hb
        clear ht hb
        by_cases hlt : (k : Int) < f.size
        · have kf : k < f.size := by omega
          have kt : k < t.size := by omega
          have hu := UInt8.toNat_lt f[k]
          obtain ⟨c0, f0⟩ := tab_cell HT.out f[k].toNat hu
          have HT2 := Lib.hid (tab_pick HT.out kf kt)
          have HB2 := Lib.hid (HB.out.setCell (p := ⟨w.heap.size, f[k].toNat, none⟩) (Nat.le_refl _) (.int .u8 (t[k].toNat : Int)))
          have k0 : (0 : Int) ≤ k := by omega
          have k1 : (k : Int) < f.size := by omega
          have k2 : (k : Int) < t.size := by omega
          have u0 : (0 : Int) ≤ (f[k].toNat : Int) := by omega
          have u1 : (f[k].toNat : Int) < 256 := by omega
          go_wp2_with fail
          go_region
          go_wp2
          go_roundw
          case rel => exact ⟨k + 1, by go_num, by omega, World.ownsRow.drew HT2.out, HB2.out.drew⟩
          case measure => first | (simp [intOf]; done) | (simp [intOf]; omega)
        · obtain rfl : k = f.size := by omega
          have hcv := Lib.run_convert_string_bytes (P := Try.prog) wr 9 22 5 s Try.underlying9 Try.underlying22 Try.underlying5
          have HH := Lib.hid (bytes_holds wr s)
          have HT3 := Lib.hid (tab_below HT.out (bytes_below wr s))
          have HB3 := Lib.hid (below_then HB.out (bytes_below wr s))
          have hg := (tab_lt HT.out).2
          clear HT HB
          generalize Lib.bytesWorld wr 5 s = wb at hcv HH HT3 HB3
          generalize grownCap wr s.size 0 5 = cap at hcv
          generalize wr.heap.size = g2 at hcv HH hg
          go_wp2
          go_loopw [12, 13, 44] (fun _ _ i wx => ∃ k : Nat, i = .int .i64 k ∧ k ≤ s.size ∧ wx = putRow enc8 wb g2 0 (dkA s f t k)) (fun _ _ i _ => s.size - (intOf i).toNat)
          case atStart => exact ⟨0, rfl, by omega, by rw [dk_zero]; exact (putRow_self enc8 wb g2 0 s.data HH.out).symm⟩
          case round =>
            clear hcv
            obtain ⟨k, rfl, hk, hwx⟩ := hrel
            have HX := Lib.hid hwx
            clear hwx
            by_cases hlt : (k : Int) < s.size
            · have ks : k < s.size := by omega
              have hu := UInt8.toNat_lt s[k]
              have e0 := cell?_putRow enc8 wb g2 0 s.data (dkA s f t k) HH.out (dk_size s f t k hk) k (by rw [dk_size s f t k hk]; exact ks)
              rw [Nat.zero_add, dk_at s f t k ks, ← HX.out] at e0
              have f0 := (HH.out k ks).2
              rw [Nat.zero_add, ← frozen?_putRow enc8 wb g2 0 (dkA s f t k), ← HX.out] at f0
              have c1 := (cell?_putRow_other enc8 wb g2 0 (dkA s f t k) ⟨w.heap.size, s[k].toNat, none⟩ (.inl (by show w.heap.size ≠ g2; omega))).trans (tab_cell HT3.out s[k].toNat hu).1
              rw [← HX.out, of_nat8] at c1
              have hn := putRow_set enc8 wb g2 0 (dkA s f t k) k (pickB f.data.toList t.data.toList s[k] f.size) (by rw [dk_size s f t k hk]; exact ks)
              rw [Nat.zero_add, dk_set s f t k ks, ← HX.out] at hn
              have HN := Lib.hid hn
              have k0 : (0 : Int) ≤ k := by omega
              have u1 : (s[k].toNat : Int) < 256 := by omega
              clear hn HX
              go_wp2
              go_roundw
              case rel => exact ⟨k + 1, by go_num, by omega, HN.out⟩
              case measure => first | (simp [intOf]; done) | (simp [intOf]; omega)
            · obtain rfl : k = s.size := by omega
              have hc := conv8_cells g2 cap (mapL s f t s.size) (put_conv wb g2 s.data (dkA s f t s.size) (mapL s f t s.size) HH.out (dk_size s f t s.size hk) (dk_end s f t))
              rw [mapL_len s f t s.size (Nat.le_refl _), HR.out, ← HX.out] at hc
              have HBX := Lib.hid (show RowKit.Below w.heap.size w _ from Lib.below_putRow (enc := enc8) (q := 0) (g := g2) (d := dkA s f t s.size) HB3.out (by omega))
              have HY : Hid (RowKit.Below w.heap.size w wr) := by
                have e := HBX.out
                rw [show putRow enc8 (Sort.ahead wb 0) g2 0 (dkA s f t s.size) = wr from HX.out.symm] at e
                exact e
              go_wp2
              go_ret2
              exact ⟨rfl, HY.out⟩
theorem impl_map_no (s f t : ByteArray) (w : World) (he : ¬ f.size = t.size) : Calls Try.prog 37 #[.string s, .string f, .string t] w fun e w' => e = .returned (.tuple #[.string ByteArray.empty, .bool false]) ∧ RowKit.Below w.heap.size w w' := by
  have h1 : ((f.size : Int) == (t.size : Int)) = false := by simp; omega
  have h2 : (f.size == t.size) = false := by simpa using he
  go_enter Try.func37, Try.ntmps37
  go_wp2
  go_ret2
  exact ⟨rfl, Below.refl _ _⟩

theorem FnExactMapText_walk (a0 a1 a2 : ByteArray) (w0 : a0.size ≤ maxLen) (w1 : a1.size ≤ maxLen) (w2 : a2.size ≤ maxLen) (w : World) :
    Calls Try.prog 13 #[.string a0, .string a1, .string a2] w fun e w' => e = .returned (.bool true) ∧ RowKit.Below w.heap.size w w' := by
  have hm0 : (a0.size : Int) ≤ 9223372036854775807 := by unfold maxLen at w0; omega
  have hm1 : (a1.size : Int) ≤ 9223372036854775807 := by unfold maxLen at w1; omega
  have hm2 : (a2.size : Int) ≤ 9223372036854775807 := by unfold maxLen at w2; omega
  clear w0 w1 w2
  by_cases hl0 : (1048576 : Int) < a0.size
  · go_enter Try.func13, Try.ntmps13
    go_wp2
    go_ret
    exact ⟨rfl, Below.refl _ _⟩
  by_cases hl1 : (1048576 : Int) < a1.size
  · go_enter Try.func13, Try.ntmps13
    go_wp2
    go_ret
    exact ⟨rfl, Below.refl _ _⟩
  by_cases hl2 : (1048576 : Int) < a2.size
  · go_enter Try.func13, Try.ntmps13
    go_wp2
    go_ret
    exact ⟨rfl, Below.refl _ _⟩
  obtain ⟨v, b, H1, H2⟩ : ∃ v b, Hid (∀ W, Calls Try.prog 36 #[.string a0, .string a1, .string a2] W fun e w' => e = .returned (.tuple #[.string v, .bool b]) ∧ RowKit.Below W.heap.size W w') ∧ Hid (∀ W, Calls Try.prog 37 #[.string a0, .string a1, .string a2] W fun e w' => e = .returned (.tuple #[.string v, .bool b]) ∧ RowKit.Below W.heap.size W w') := by
    by_cases he : a1.size = a2.size
    · exact ⟨_, _, fun W => spec_map a0 a1 a2 W (by omega) (by omega) he.symm, fun W => impl_map a0 a1 a2 W (by omega) (by omega) he.symm⟩
    · exact ⟨_, _, fun W => spec_map_no a0 a1 a2 W he, fun W => impl_map_no a0 a1 a2 W he⟩
  go_enter Try.func13, Try.ntmps13
  go_wp2_with fail
  refine (H1.out _).mono ?_
  rintro e w1 ⟨rfl, hb1⟩
  go_wp2_with fail
  refine (H2.out _).mono ?_
  rintro e w2 ⟨rfl, hb2⟩
  have HB := Lib.hid (hb1.trans (hb2.mono hb1.size))
  clear hb1 hb2
  cases b
  all_goals
    go_wp2
    go_ret
    exact ⟨rfl, HB.out⟩
end Go.Proofs.Ytdbfkgpmppdjlaa
