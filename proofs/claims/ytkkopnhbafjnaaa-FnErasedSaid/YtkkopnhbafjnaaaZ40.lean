/- Joined texts: N44. No conditions besides those that each states. -/
import Derived.Deep.RegionHeld3
import Derived.Deep.DrawnRows
import Derived.Test.YtkkopnhbafjnaaaZ20
import Derived.Test.YtkkopnhbafjnaaaZ39
/- The law FnErased answers true at every code. No conditions. -/
namespace Go.Proofs.Ytkkopnhbafjnaaa
open Go.RowKit
attribute [local go_sem ↓] Go.wp_at_zero Go.wp_at_succ
set_option linter.unusedVariables false

/-- The load that a false guard leaves out. -/
def op23 : Oper := { dst := some 34, op := .load 26 (.tmp 4), type := 26, pos := "laws.go:298", after := #[{ on := 22, ground := .guard }], guard := some (22, false) }
theorem kids_drew {w : World} {v : Value} {l : List Ex.T} (h : Kids w v l) : Kids w.drew v l := h.later ((Below.refl _ _).drew)
set_option maxRecDepth 100000 in
set_option maxHeartbeats 3200000 in
theorem FnErased_walk (a0 : Option Addr) (len0 cap0 : Nat) (z0 : List Int) (w : World) (w0 : IsRow .u8 w a0 len0 cap0 z0) :
    Calls Try.prog 3 #[.slice a0 len0 cap0] w fun e w' => e = .returned (.bool true) ∧ Below w.heap.size w w' := by
  have HC := Lib.hid (code_of_in w0)
  have hl : (len0 : Int) ≤ 9223372036854775807 := by
    rcases w0 with ⟨_, rfl, _⟩ | ⟨x, _, h1, h2, _⟩
    · omega
    · unfold maxLen at h2; omega
  clear w0
  by_cases hbig : (1048576 : Int) < len0
  · go_enter Try.func3, Try.ntmps3
    go_wp2
    go_ret
    exact ⟨rfl, Below.refl _ _⟩
  · have hs : (len0 : Int) ≤ 1048576 := by omega
    have HD := Lib.hid (draw_erase _ len0 w HC.out hs)
    unfold DrewT at HD
    clear HC
    go_enter Try.func3, Try.ntmps3
    go_wp2_with fail
    refine (big_no a0 len0 cap0 _ hs).mono ?_
    rintro ee wz ⟨rfl, rfl⟩
    go_wp2_with fail
    refine HD.out.mono ?_
    rintro ee w1 ⟨t, v, F, rfl, ho, hf, hb, hb1⟩
    obtain ⟨z, d, rfl⟩ := kids_len (OwnK.kids _ ho)
    have hk1 := (OwnK.kids _ ho).later (bl1 w1 (iexN t (.slice z t.kids.length d)))
    obtain ⟨wA, hwA⟩ : ∃ wA, w1.alloc (iexN t (.slice z t.kids.length d)) = wA := ⟨_, rfl⟩
    have hfA : FreeE wA w1.heap.size t.kind t.text t.num t.line (.slice z t.kids.length d) := by rw [← hwA]; exact FreeE.new _ _ _ _ _ _ _
    have HBA : Hid (Below w.heap.size w wA) := Lib.hid (by rw [← hwA]; exact below_then hb1 (bl1 _ _))
    rw [hwA] at hk1
    have HE1 := Lib.hid (impl_erase t (by omega) wA _ hk1)
    unfold RetE at HE1
    have HWA := Lib.hid hwA
    have HFA := Lib.hid hfA
    have HKA := Lib.hid hk1
    have HX2 : Hid (t.bulk ≤ 1048576) := Lib.hid (by omega)
    clear ho hf hb hb1 hwA hfA hk1 HD hs hbig hl
    obtain ⟨⟨q0, q1, q2, q3, q4⟩, f0, f1, f2, f3, f4⟩ := HFA.out
    have HLA : Hid (w1.heap.size < wA.heap.size) := Lib.hid (by rw [← HWA.out]; simp)
    go_wp2_with fail
    rw [HWA.out]
    refine HE1.out.mono ?_
    rintro ee w2 ⟨v2, F2, rfl, o2, f2', b2⟩
    obtain ⟨z2, d2, rfl⟩ := kids_len (OwnK.kids _ o2)
    obtain ⟨wB, hwB⟩ : ∃ wB, w2.alloc (iexN t.erase (.slice z2 t.erase.kids.length d2)) = wB := ⟨_, rfl⟩
    have hbB : Below w2.heap.size w2 wB := by rw [← hwB]; exact bl1 _ _
    have hfA := (HFA.out.later b2).later hbB
    have hfB : FreeE wB w2.heap.size t.erase.kind t.erase.text t.erase.num t.erase.line (.slice z2 t.erase.kids.length d2) := by rw [← hwB]; exact FreeE.new _ _ _ _ _ _ _
    have hkA := (HKA.out.later b2).later hbB
    have hkB := (OwnK.kids _ o2).later hbB
    have HBB := Lib.hid (below_then (below_then HBA.out b2) hbB)
    have hx2 := HX2.out
    have hxe : t.erase.bulk ≤ 1048576 := by rw [erase_bulk]; exact hx2
    have HCE := Lib.hid (fun W h => impl_erase t.erase hxe W (.slice z2 t.erase.kids.length d2) h)
    have HCQ := Lib.hid (fun va W h1 h2 => impl_equal t.erase t.erase hxe hxe W va (.slice z2 t.erase.kids.length d2) h1 h2)
    have HC1 := Lib.hid (fun W h => impl_count t.erase hxe W (.slice z2 t.erase.kids.length d2) h)
    have HC2 := Lib.hid (fun W h => impl_count t hx2 W (.slice z t.kids.length d) h)
    have HD1 := Lib.hid (fun W h => impl_depth t.erase hxe W (.slice z2 t.erase.kids.length d2) h)
    have HD2 := Lib.hid (fun W h => impl_depth t hx2 W (.slice z t.kids.length d) h)
    have HV1 := Lib.hid (fun W h => spec_isvalid t hx2 W (.slice z t.kids.length d) h)
    have HV2 := Lib.hid (fun W h => impl_isvalid t.erase hxe W (.slice z2 t.erase.kids.length d2) h)
    have hok := erase_ok t
    rw [erase_again] at HCE
    rw [eqb_self] at HCQ
    rw [erase_count] at HC1
    rw [erase_deep] at HD1
    unfold RetE at HCE
    have HWB := Lib.hid hwB
    generalize t.erase = te at *
    generalize t.count = nc at *
    generalize t.deep = nd at *
    generalize (decide (nc ≤ 600) && t.valid 1) = vb at *
    generalize (decide (te.count ≤ 600) && te.valid 1) = vc at *
    generalize w1.heap.size = bA at *
    obtain ⟨bB, hbe⟩ : ∃ b, w2.heap.size = b := ⟨_, rfl⟩
    rw [hbe] at hfB
    have HBE := Lib.hid hbe
    have HB := Lib.hid HBB.out
    have HKAB := Lib.hid hkA
    have HKBB := Lib.hid hkB
    obtain ⟨⟨a0', a1', a2', a3', a4'⟩, _⟩ := hfA
    obtain ⟨⟨b0', b1', b2', b3', b4'⟩, _⟩ := hfB
    clear o2 f2' b2 hbB hkA hkB hx2 hxe q0 q1 q2 q3 q4 f0 f1 f2 f3 f4 HBA HFA HKA HX2 HE1 HLA HBB HWA
    clear hwB hbe
    cases vb
    · clear hok HV2
      go_wp2_with fail
      rw [HWB.out, HBE.out]
      have e23 : op23 = { dst := some 34, op := .load 26 (.tmp 4), type := 26, pos := "laws.go:298", after := #[{ on := 22, ground := .guard }], guard := some (22, false) } := rfl
      rw [← e23]
      first | (go_region_held3 (fun w' => w'.cell? ⟨bA, 0, none⟩ = some (.int .i64 t.kind) ∧ w'.cell? ⟨bA, 1, none⟩ = some (.string t.text) ∧ w'.cell? ⟨bA, 2, none⟩ = some (.int .i64 t.num) ∧ w'.cell? ⟨bA, 3, none⟩ = some (.int .i64 t.line) ∧ w'.cell? ⟨bA, 4, none⟩ = some (.slice z t.kids.length d) ∧ w'.cell? ⟨bB, 0, none⟩ = some (.int .i64 te.kind) ∧ w'.cell? ⟨bB, 1, none⟩ = some (.string te.text) ∧ w'.cell? ⟨bB, 2, none⟩ = some (.int .i64 te.num) ∧ w'.cell? ⟨bB, 3, none⟩ = some (.int .i64 te.line) ∧ w'.cell? ⟨bB, 4, none⟩ = some (.slice z2 te.kids.length d2) ∧ Kids w' (.slice z t.kids.length d) t.kids ∧ Kids w' (.slice z2 te.kids.length d2) te.kids ∧ Below wB.heap.size wB w')
        (first | exact ⟨a0', a1', a2', a3', a4', b0', b1', b2', b3', b4', kids_drew HKAB.out, kids_drew HKBB.out, (Below.refl _ _).drew⟩ | assumption | (go_split_ands; exact ⟨by assumption, by assumption, by assumption, by assumption, by assumption, by assumption, by assumption, by assumption, by assumption, by assumption, by assumption, by assumption, by assumption⟩) | (go_split_ands; exact ⟨cell_later (by assumption) (by assumption), cell_later (by assumption) (by assumption), cell_later (by assumption) (by assumption), cell_later (by assumption) (by assumption), cell_later (by assumption) (by assumption), cell_later (by assumption) (by assumption), cell_later (by assumption) (by assumption), cell_later (by assumption) (by assumption), cell_later (by assumption) (by assumption), cell_later (by assumption) (by assumption), Kids.later (by assumption) (by assumption), Kids.later (by assumption) (by assumption), below_step (by assumption) (by assumption)⟩))
        (first | (go_at_call 13; refine (HCE.out _ (by go_split_ands; assumption)).mono ?_; rintro ee w6 ⟨va, Fa, rfl, oa, fa, hb6⟩; clear fa) | (go_at_call 14; refine (HCQ.out _ _ (by first | exact OwnK.kids _ oa | exact kids_drew (OwnK.kids _ oa)) (by go_split_ands; assumption)).mono ?_; rintro ee w7 ⟨rfl, hb7⟩) | (go_at_call_of 15 te; refine (HC1.out _ (by go_split_ands; assumption)).mono ?_; rintro ee w8 ⟨rfl, hb8⟩) | (go_at_call_of 15 t; refine (HC2.out _ (by go_split_ands; assumption)).mono ?_; rintro ee w9 ⟨rfl, hb9⟩) | (go_at_call_of 16 te; refine (HD1.out _ (by go_split_ands; assumption)).mono ?_; rintro ee w10 ⟨rfl, hb10⟩) | (go_at_call_of 16 t; refine (HD2.out _ (by go_split_ands; assumption)).mono ?_; rintro ee w11 ⟨rfl, hb11⟩) | (go_at_call 17; refine (HV1.out _ (by go_split_ands; assumption)).mono ?_; rintro ee w12 ⟨rfl, hb12⟩))) | fail "the region"
      all_goals
        go_split_ands
        have hB := Lib.hid (below_then HB.out (by assumption))
        go_wp2
        go_ret
        exact ⟨rfl, hB.out⟩
    · obtain rfl := hok rfl
      clear hok
      go_wp2_with fail
      rw [HWB.out, HBE.out]
      go_region_held3 (fun w' => w'.cell? ⟨bA, 0, none⟩ = some (.int .i64 t.kind) ∧ w'.cell? ⟨bA, 1, none⟩ = some (.string t.text) ∧ w'.cell? ⟨bA, 2, none⟩ = some (.int .i64 t.num) ∧ w'.cell? ⟨bA, 3, none⟩ = some (.int .i64 t.line) ∧ w'.cell? ⟨bA, 4, none⟩ = some (.slice z t.kids.length d) ∧ w'.cell? ⟨bB, 0, none⟩ = some (.int .i64 te.kind) ∧ w'.cell? ⟨bB, 1, none⟩ = some (.string te.text) ∧ w'.cell? ⟨bB, 2, none⟩ = some (.int .i64 te.num) ∧ w'.cell? ⟨bB, 3, none⟩ = some (.int .i64 te.line) ∧ w'.cell? ⟨bB, 4, none⟩ = some (.slice z2 te.kids.length d2) ∧ Kids w' (.slice z t.kids.length d) t.kids ∧ Kids w' (.slice z2 te.kids.length d2) te.kids ∧ Below wB.heap.size wB w')
        (first | exact ⟨a0', a1', a2', a3', a4', b0', b1', b2', b3', b4', kids_drew HKAB.out, kids_drew HKBB.out, (Below.refl _ _).drew⟩ | assumption | (go_split_ands; exact ⟨by assumption, by assumption, by assumption, by assumption, by assumption, by assumption, by assumption, by assumption, by assumption, by assumption, by assumption, by assumption, by assumption⟩) | (go_split_ands; exact ⟨cell_later (by assumption) (by assumption), cell_later (by assumption) (by assumption), cell_later (by assumption) (by assumption), cell_later (by assumption) (by assumption), cell_later (by assumption) (by assumption), cell_later (by assumption) (by assumption), cell_later (by assumption) (by assumption), cell_later (by assumption) (by assumption), cell_later (by assumption) (by assumption), cell_later (by assumption) (by assumption), Kids.later (by assumption) (by assumption), Kids.later (by assumption) (by assumption), below_step (by assumption) (by assumption)⟩))
        (first | (go_at_call 13; refine (HCE.out _ (by go_split_ands; assumption)).mono ?_; rintro ee w6 ⟨va, Fa, rfl, oa, fa, hb6⟩; clear fa) | (go_at_call 14; refine (HCQ.out _ _ (by first | exact OwnK.kids _ oa | exact kids_drew (OwnK.kids _ oa)) (by go_split_ands; assumption)).mono ?_; rintro ee w7 ⟨rfl, hb7⟩) | (go_at_call_of 15 te; refine (HC1.out _ (by go_split_ands; assumption)).mono ?_; rintro ee w8 ⟨rfl, hb8⟩) | (go_at_call_of 15 t; refine (HC2.out _ (by go_split_ands; assumption)).mono ?_; rintro ee w9 ⟨rfl, hb9⟩) | (go_at_call_of 16 te; refine (HD1.out _ (by go_split_ands; assumption)).mono ?_; rintro ee w10 ⟨rfl, hb10⟩) | (go_at_call_of 16 t; refine (HD2.out _ (by go_split_ands; assumption)).mono ?_; rintro ee w11 ⟨rfl, hb11⟩) | (go_at_call 17; refine (HV1.out _ (by go_split_ands; assumption)).mono ?_; rintro ee w12 ⟨rfl, hb12⟩) | (go_at_call 18; refine (HV2.out _ (by go_split_ands; assumption)).mono ?_; rintro ee w13 ⟨rfl, hb13⟩))
      all_goals
        go_split_ands
        have hB := Lib.hid (below_then HB.out (by assumption))
        go_wp2
        go_ret
        exact ⟨rfl, hB.out⟩
end Go.Proofs.Ytkkopnhbafjnaaa
