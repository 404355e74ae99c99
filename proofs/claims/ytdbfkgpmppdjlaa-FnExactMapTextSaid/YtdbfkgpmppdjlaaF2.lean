/- MapText of the reference model: each byte replaced by its last image. No conditions. -/
import Derived.Test.YtdbfkgpmppdjlaaT2
import Derived.Test.YtdbfkgpmppdjlaaE2
namespace Go.Proofs.Ytdbfkgpmppdjlaa
open Go.RowKit
set_option linter.unusedVariables false

/-- What a byte becomes by the first k pairs. -/
def pickB (f t : List UInt8) (x : UInt8) : Nat → UInt8
  | 0 => x
  | k + 1 => if f.getD k 0 = x then t.getD k 0 else pickB f t x k
theorem getB (s : ByteArray) (k : Nat) (h : k < s.size) : s.data.toList.getD k 0 = s[k] := by
  have h2 : k < s.data.toList.length := h
  rw [List.getD_eq_getElem?_getD, List.getElem?_eq_getElem h2]; rfl
theorem pick_yes (f t : ByteArray) (x : UInt8) (k : Nat) (hf : k < f.size) (ht : k < t.size) (h : f[k] = x) : pickB f.data.toList t.data.toList x (k + 1) = t[k] := by
  rw [pickB, getB f k hf, getB t k ht, if_pos h]
theorem pick_no (f t : ByteArray) (x : UInt8) (k : Nat) (hf : k < f.size) (h : ¬ f[k] = x) : pickB f.data.toList t.data.toList x (k + 1) = pickB f.data.toList t.data.toList x k := by
  rw [pickB, getB f k hf, if_neg h]
/-- The bytes made so far. -/
def mapL (s f t : ByteArray) (k : Nat) : List UInt8 := (s.data.toList.take k).map fun x => pickB f.data.toList t.data.toList x f.size
theorem mapL_succ (s f t : ByteArray) (k : Nat) (h : k < s.size) : mapL s f t k ++ [pickB f.data.toList t.data.toList s[k] f.size] = mapL s f t (k + 1) := by
  have h2 : k < s.data.toList.length := h
  unfold mapL
  rw [List.take_succ_eq_append_getElem h2, List.map_append]; rfl
theorem mapL_len (s f t : ByteArray) (k : Nat) (h : k ≤ s.size) : (mapL s f t k).length = k := by
  unfold mapL
  rw [List.length_map, List.length_take, len8]; omega

set_option maxHeartbeats 800000 in
theorem spec_map (s f t : ByteArray) (w : World) (hs : (s.size : Int) ≤ 1048576) (hf : (f.size : Int) ≤ 1048576) (he : t.size = f.size) : Calls Try.prog 36 #[.string s, .string f, .string t] w fun e w' => e = .returned (.tuple #[.string (str8 (mapL s f t s.size)), .bool true]) ∧ Below w.heap.size w w' := by
  have he2 : (t.size : Int) = f.size := by omega
  obtain ⟨i0, hi, hz0, hz1, hz2⟩ := info_parts info8
  generalize hr : str8 (mapL s f t s.size) = r
  have HR := Lib.hid hr
  clear hr
  go_enter Try.func36, Try.ntmps36
  go_wp2
  go_loopw [8, 9, 10, 11] (fun v i _ _ wr => ∃ k : Nat, i = .int .i64 k ∧ k ≤ s.size ∧ Own8 wr w.heap.size v (mapL s f t k) ∧ Below w.heap.size w wr) (fun _ i _ _ _ => s.size - (intOf i).toNat)
  case atStart => exact ⟨0, rfl, by omega, World.ownsRow_made w #[] 0 (Nat.le_refl _) (by unfold maxLen; omega) rfl, bl1 _ _⟩
  case round =>
    obtain ⟨k, rfl, hk, ho, hb⟩ := hrel
    have HO := Lib.hid ho
    have HB := Lib.hid hb
    by_cases hlt : (k : Int) < s.size
    · clear ho hb
      have hks : k < s.size := by omega
      have hlen : (mapL s f t k).length = k := mapL_len s f t k hk
      have HS := Lib.hid (mapL_succ s f t k hks)
      go_wp2
      go_loopw [10, 11] (fun b j wx => ∃ n : Nat, j = .int .i64 n ∧ n ≤ f.size ∧ b = .int .u8 ((pickB f.data.toList t.data.toList s[k] n).toNat : Int) ∧ ∃ q, wx = wr.drewN q) (fun _ j _ => f.size - (intOf j).toNat)
      case atStart => exact ⟨0, rfl, by omega, rfl, 0, rfl⟩
      case round =>
        obtain ⟨n, rfl, hn, rfl, q, rfl⟩ := hrel
        by_cases hlt2 : (n : Int) < f.size
        · have hnf : n < f.size := by omega
          have hnt : n < t.size := by omega
          have hnt2 : (n : Int) < t.size := by omega
          by_cases heq : f[n] = s[k]
          · have HP := Lib.hid (pick_yes f t s[k] n hnf hnt heq)
            have h1 : ((f[n].toNat : Int) == (s[k].toNat : Int)) = true := by rw [heq]; simp
            have h2 : (f[n].toNat == s[k].toNat) = true := by rw [heq]; simp
            clear heq
            go_wp2
            go_quiet (fail)
            go_wp2
            go_roundw
            case rel => exact ⟨n + 1, by go_num, by omega, by rw [HP.out], _, rfl⟩
            case measure => first | (simp [intOf]; done) | (simp [intOf]; omega)
          · have HP := Lib.hid (pick_no f t s[k] n hnf heq)
            have hne : ¬ f[n].toNat = s[k].toNat := fun e => heq (UInt8.toNat_inj.1 e)
            have h1 : ((f[n].toNat : Int) == (s[k].toNat : Int)) = false := by simp; omega
            have h2 : (f[n].toNat == s[k].toNat) = false := by simpa using hne
            clear heq
            go_wp2
            go_quiet (fail)
            go_wp2
            go_roundw
            case rel => exact ⟨n + 1, by go_num, by omega, by rw [HP.out], _, rfl⟩
            case measure => first | (simp [intOf]; done) | (simp [intOf]; omega)
        · obtain rfl : n = f.size := by omega
          have HOq := Lib.hid (show Own8 (wr.drewN q) w.heap.size _ (mapL s f t k) from HO.out)
          have HBq := Lib.hid (drewN_below HB.out q)
          clear HO HB
          generalize wr.drewN q = wq at *
          have hsz := HBq.out.size
          generalize hy : pickB f.data.toList t.data.toList s[k] f.size = y at *
          go_wp2_with (at_builtin; refine wpList_append_own _ rfl _ _ 22 rfl w.heap.size 5 i0 (.int .u8 0) 1 1 Try.underlying22 hi hz0 hz1 hz2 rfl (by decide) _ _ _ rfl (HOq.out.alloc _) ⟨wq.heap.size, 0, none⟩ 1 1 [.int .u8 (y.toNat : Int)] rfl rfl ?c1 ?c2 ?c3 ?c4 ?c5 ?_)
          case c2 => first | exact one8 _ _ | rfl
          case c3 => exact max8 (by omega)
          case c4 => omega
          case c5 => first | omega | (simp; omega)
          intro v' w2 hown' hgrow _
          have HO2 := Lib.hid (own8_app (l := mapL s f t k) (x := y) (by rw [hlen]; exact hown'))
          have HB2 := Lib.hid (below8_app HBq.out HOq.out hgrow)
          rw [HS.out] at HO2
          clear hown' hgrow
          go_wp2
          go_roundw
          case rel => exact ⟨k + 1, by go_num, by omega, HO2.out, HB2.out⟩
          case measure => first | (simp [intOf]; done) | (simp [intOf]; omega)
    · obtain rfl : k = s.size := by omega
      have hc := conv8 ho
      rw [HR.out] at hc
      clear ho hb
      go_wp2
      go_ret2
      exact ⟨rfl, HB.out⟩
theorem spec_map_no (s f t : ByteArray) (w : World) (he : ¬ f.size = t.size) : Calls Try.prog 36 #[.string s, .string f, .string t] w fun e w' => e = .returned (.tuple #[.string ByteArray.empty, .bool false]) ∧ Below w.heap.size w w' := by
  have h1 : ((f.size : Int) == (t.size : Int)) = false := by simp; omega
  have h2 : (f.size == t.size) = false := by simpa using he
  go_enter Try.func36, Try.ntmps36
  go_wp2
  go_ret2
  exact ⟨rfl, Below.refl _ _⟩
end Go.Proofs.Ytdbfkgpmppdjlaa
