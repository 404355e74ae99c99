/- Joined texts: V42. No conditions besides those that each states. -/
import Derived.BigQuiet
import Derived.Test.YtbadepiakkhabaaDoorZ33
/- The reference model's CheckUnit. No conditions. -/
namespace Go.Proofs.YtbadepiakkhabaaDoor
open Go.RowKit
set_option linter.unusedVariables false

set_option maxRecDepth 100000 in
set_option maxHeartbeats 25600000 in
theorem spec_chk (u : Un) (hb : u.bulk ≤ 1048576) (w : World) (v1 v2 v3 : Value) (h : UnIs w u v1 v2 v3) : Calls Tryd.prog 19 #[unV v1 v2 v3] w (RetII w (chk u)) := by
  unfold RetII
  have HBB := Lib.hid hb
  have HBR : Hid (∀ r ∈ u.recs, (r.fields.length : Int) ≤ 1048576) := Lib.hid (fun r hr => by
    have h1 := wsum_mem Rc.bulk hr
    have h2 : r.bulk = r.name.size + strsB r.fields := rfl
    unfold strsB at h2
    unfold Un.bulk recsB at hb
    omega)
  have HU := Lib.hid (fun W (hW : Below w.heap.size w W) => (⟨h.1.later hW, h.2.1.later hW, h.2.2.later hW⟩ : UnIs W u v1 v2 v3))
  have HV := Lib.hid (fun W (hW : Below w.heap.size w W) => spec_validunit u hb W v1 v2 v3 (HU.out W hW))
  have HLN := Lib.hid (fun W (hW : Below w.heap.size w W) (n : Nat) => spec_locals u hb (n : Int) W v1 v2 v3 (HU.out W hW))
  unfold RetN at HLN
  obtain ⟨l1, l2, l3⟩ := un_lens hb
  obtain ⟨h1, h2, h3⟩ := h
  obtain ⟨a1, c1, rfl⟩ := is_slice h1
  obtain ⟨a2, c2, rfl⟩ := is_slice h2
  obtain ⟨a3, c3, rfl⟩ := is_slice h3
  have B0 := Lib.hid (bl1 w (.cells #[.slice a1 u.recs.length c1, .slice a2 u.globs.length c2, .slice a3 u.procs.length c3] 51))
  have V0 := Lib.hid (Var.new w #[.slice a1 u.recs.length c1, .slice a2 u.globs.length c2, .slice a3 u.procs.length c3] 51)
  obtain ⟨w1, hw1⟩ : ∃ W, w.alloc (.cells #[.slice a1 u.recs.length c1, .slice a2 u.globs.length c2, .slice a3 u.procs.length c3] 51) = W := ⟨_, rfl⟩
  have HZ1 : Hid (w1.heap.size = w.heap.size + 1) := Lib.hid (by rw [← hw1, World.size_alloc])
  rw [hw1] at B0 V0
  have HW1 := Lib.hid hw1
  have HVC := Lib.hid (HV.out w1 B0.out)
  clear h1 h2 h3 hw1 HV hb
  cases hv : u.valid
  case false =>
    rw [hv] at HVC
    rw [chk_bad hv]
    clear hv
    go_enter Tryd.func19, Tryd.ntmps19
    go_wp2_with fail
    rw [HW1.out]
    have x0 := (V0.out 0 _ rfl).1
    have x1 := (V0.out 1 _ rfl).1
    have x2 := (V0.out 2 _ rfl).1
    go_wp2_with fail
    refine HVC.out.mono ?_
    rintro e w2 ⟨rfl, b2⟩
    have B2 := Lib.hid (below_then B0.out b2)
    clear b2
    go_wp2
    go_ret2
    exact ⟨rfl, B2.out⟩
  case true =>
    rw [hv] at HVC
    rw [chk_ok hv]
    have HVL := Lib.hid hv
    have HDZ := Lib.hid (dupR_zero u)
    clear hv
    go_enter Tryd.func19, Tryd.ntmps19
    go_wp2_with fail
    rw [HW1.out]
    have x0 := (V0.out 0 _ rfl).1
    have x1 := (V0.out 1 _ rfl).1
    have x2 := (V0.out 2 _ rfl).1
    go_wp2_with fail
    refine HVC.out.mono ?_
    rintro e w2 ⟨rfl, b2⟩
    have B2 := Lib.hid (below_then B0.out b2)
    have V2 := Lib.hid (V0.out.later b2)
    have HZ2 : Hid (w.heap.size + 1 ≤ w2.heap.size) := Lib.hid (by have h1 := b2.size; have h2 := HZ1.out; omega)
    clear b2 x0 x1 x2
    go_wp2_with fail
    refine (spec_funs w2).mono ?_
    rintro e w3 ⟨rfl, hw3⟩
    have HST : Hid (ChkS w [.slice a1 u.recs.length c1, .slice a2 u.globs.length c2, .slice a3 u.procs.length c3] (.slice (some ⟨w2.heap.size, 0, none⟩) 55 55) (accR u 0) w3) := Lib.hid (by
      rw [← hw3, accR_zero]
      exact ⟨V2.out.later (bl1 _ _), owns_funs w2 _ HZ2.out, below_then B2.out (bl1 _ _), by rw [World.size_alloc]; have := HZ2.out; omega⟩)
    clear hw3
    go_wp2
    go_loopw [4, 5] (fun nv i wr => ∃ k : Nat, i = .int .i64 k ∧ k ≤ u.recs.length ∧ ChkS w [.slice a1 u.recs.length c1, .slice a2 u.globs.length c2, .slice a3 u.procs.length c3] nv (accR u k) wr ∧ DupR u k) (fun _ i _ => u.recs.length - (intOf i).toNat)
    case atStart => exact ⟨0, rfl, Nat.zero_le _, HST.out, HDZ.out⟩
    case round =>
      clear HST HDZ
      obtain ⟨k, rfl, hk, hs, hd⟩ := hrel
      have HS := Lib.hid hs
      have HD := Lib.hid hd
      have HLA : Hid ((accR u k).length ≤ 1048576) := Lib.hid (by rw [accR_len u hk]; have := HBB.out; unfold Un.bulk recsB at this; have := HVL.out; unfold Un.valid at this; simp only [Bool.and_eq_true, decide_eq_true_eq] at this; omega)
      obtain ⟨an, cn, rfl⟩ := owns_slice hs.2.1
      have x0 := (hs.1 0 _ rfl).1
      by_cases hlt : k < u.recs.length
      · obtain ⟨g, o, rfl, q0, ⟨vf, q1, kf⟩, q2⟩ := rec_at (HU.out wr hs.2.2.1).1 k hlt
        have HF := Lib.hid (spec_find _ (accR u k) u.recs[k].name wr hs.isN (by have := HLA.out; omega))
        have k0 : (0 : Int) ≤ k := by omega
        have k1 : (k : Int) < u.recs.length := by omega
        have HT := Lib.hid (fun b (hb : twice u.recs[k].fields = b) => twice_at hb vf wr kf (HBR.out _ (List.getElem_mem hlt)))
        obtain ⟨af, cf, rfl⟩ := is_slice kf
        have HAS := Lib.hid (accR_succ hlt)
        rcases hf : fx (accR u k) u.recs[k].name with _ | j
        · rw [fxI_none hf] at HF
          cases ht : twice u.recs[k].fields
          case false =>
            have HT2 := Lib.hid (HT.out _ ht)
            have HNX := Lib.hid (HD.out.next hlt (by rw [hf]; rfl) ht)
            clear HT hs hd hf ht kf HD
            generalize u.recs[k] = x at q0 q1 q2 HF HT2 HAS
            have HLT := Lib.hid hlt
            clear hlt
            go_wp2_with fail
            (with_reducible refine HF.out.mono ?_)
            rintro e w5 ⟨rfl, rfl⟩
            go_wp2_with fail
            (with_reducible refine HT2.out.mono ?_)
            rintro e w5 ⟨rfl, rfl⟩
            go_wp2_with (at_builtin; refine wpList_append_str (B := w.heap.size + 1) rfl _ _ rfl rfl (owns_later HS.out.2.1 (bl1 _ _)) ⟨wr.heap.size, 0, none⟩ x.name rfl ?c1 ?c2 ?c3 ?_)
            case c1 => exact new_cell _ _ _ 0 _ rfl
            case c2 => have := HLA.out; omega
            case c3 => exact Nat.le_trans HS.out.2.2.2 (bl1 _ _).size
            intro g5 c5 w5 ho hg hm
            have ho2 : Owns w5 (w.heap.size + 1) (.slice (some ⟨g5, 0, none⟩) ((accR u k).length + 1) c5) (accR u (k + 1)) := by rw [HAS.out]; exact ho
            have HN := Lib.hid (ChkS.push (HS.out.later (bl1 _ _)) ho2 hg)
            clear ho ho2 hg hm q0 q1 q2 x0 HF HT2
            go_wp2
            go_roundw
            case rel => exact ⟨k + 1, by go_num, HLT.out, HN.out, HNX.out⟩
            case measure => have := HLT.out; first | (simp [intOf]; done) | (simp [intOf]; omega)
          case true =>
            have HT2 := Lib.hid (HT.out _ ht)
            have HX := Lib.hid (show fltU u = (2, u.recs[k].line) from by have e := HD.out.bad hlt (by rw [hf, ht]; rfl); rw [fltU_dup (by rw [e]; show (2 : Int) ≠ 0; decide), e])
            clear HT hs hd hf ht kf HD HAS
            generalize u.recs[k] = x at q0 q1 q2 HF HT2 HX
            clear hlt
            go_wp2_with fail
            (with_reducible refine HF.out.mono ?_)
            rintro e w5 ⟨rfl, rfl⟩
            go_wp2_with fail
            (with_reducible refine HT2.out.mono ?_)
            rintro e w5 ⟨rfl, rfl⟩
            go_wp2
            go_quiet (fail)
            go_wp2
            go_ret2
            exact ⟨ret_ii HX.out, below_drewN HS.out.2.2.1 _⟩
        · rw [fxI_some hf] at HF
          have HX := Lib.hid (show fltU u = (2, u.recs[k].line) from by have e := HD.out.bad hlt (by rw [hf]; rfl); rw [fltU_dup (by rw [e]; show (2 : Int) ≠ 0; decide), e])
          clear HT hs hd hf kf HD HAS
          generalize u.recs[k] = x at q0 q1 q2 HF HX
          clear hlt
          go_wp2_with fail
          (with_reducible refine HF.out.mono ?_)
          rintro e w5 ⟨rfl, rfl⟩
          go_wp2
          go_quiet (fail)
          go_wp2
          go_ret2
          exact ⟨ret_ii HX.out, below_drewN HS.out.2.2.1 _⟩
      · obtain rfl : k = u.recs.length := by omega
        have HS1 : Hid (ChkS w [.slice a1 u.recs.length c1, .slice a2 u.globs.length c2, .slice a3 u.procs.length c3] (.slice an (accR u u.recs.length).length cn) (accG u 0) wr) := Lib.hid (by rw [accG_zero]; exact HS.out)
        have HD1 := Lib.hid HD.out.over
        clear HS HD hs hd HLA
        go_wp2
        clear x0
        go_loopw [4, 6] (fun nv i wr => ∃ k : Nat, i = .int .i64 k ∧ k ≤ u.globs.length ∧ ChkS w [.slice a1 u.recs.length c1, .slice a2 u.globs.length c2, .slice a3 u.procs.length c3] nv (accG u k) wr ∧ DupG u k) (fun _ i _ => u.globs.length - (intOf i).toNat)
        case atStart => exact ⟨0, rfl, Nat.zero_le _, HS1.out, HD1.out⟩
        case round =>
          clear HS1 HD1
          obtain ⟨k, rfl, hk, hs, hd⟩ := hrel
          have HS := Lib.hid hs
          have HD := Lib.hid hd
          have HLA : Hid ((accG u k).length ≤ 1048576) := Lib.hid (by rw [accG_len u hk]; have := HBB.out; unfold Un.bulk recsB strsB at this; have := HVL.out; unfold Un.valid nmOk at this; simp only [Bool.and_eq_true, decide_eq_true_eq] at this; omega)
          obtain ⟨an, cn, rfl⟩ := owns_slice hs.2.1
          have x1 := (hs.1 1 _ rfl).1
          by_cases hlt : k < u.globs.length
          · obtain ⟨g, o, rfl, q0⟩ := str_at (HU.out wr hs.2.2.1).2.1 k hlt
            have HF := Lib.hid (spec_find _ (accG u k) u.globs[k] wr hs.isN (by have := HLA.out; omega))
            have k0 : (0 : Int) ≤ k := by omega
            have k1 : (k : Int) < u.globs.length := by omega
            have HAS := Lib.hid (accG_succ hlt)
            rcases hf : fx (accG u k) u.globs[k] with _ | j
            · rw [fxI_none hf] at HF
              have HNX := Lib.hid (HD.out.next hlt (by rw [hf]; rfl))
              clear hs hd hf HD
              generalize u.globs[k] = x at q0 HF HAS
              have HLT := Lib.hid hlt
              clear hlt
              go_wp2_with fail
              (with_reducible refine HF.out.mono ?_)
              rintro e w5 ⟨rfl, rfl⟩
              go_wp2_with (at_builtin; refine wpList_append_str (B := w.heap.size + 1) rfl _ _ rfl rfl (owns_later HS.out.2.1 (bl1 _ _)) ⟨wr.heap.size, 0, none⟩ x rfl ?c1 ?c2 ?c3 ?_)
              case c1 => exact new_cell _ _ _ 0 _ rfl
              case c2 => have := HLA.out; omega
              case c3 => exact Nat.le_trans HS.out.2.2.2 (bl1 _ _).size
              intro g5 c5 w5 ho hg hm
              have ho2 : Owns w5 (w.heap.size + 1) (.slice (some ⟨g5, 0, none⟩) ((accG u k).length + 1) c5) (accG u (k + 1)) := by rw [HAS.out]; exact ho
              have HN := Lib.hid (ChkS.push (HS.out.later (bl1 _ _)) ho2 hg)
              clear ho ho2 hg hm q0 x1 HF
              go_wp2
              go_roundw
              case rel => exact ⟨k + 1, by go_num, HLT.out, HN.out, HNX.out⟩
              case measure => have := HLT.out; first | (simp [intOf]; done) | (simp [intOf]; omega)
            · rw [fxI_some hf] at HF
              have HX := Lib.hid (show fltU u = (2, 0) from by have e := HD.out.bad hlt (by rw [hf]; rfl); rw [fltU_dup (by rw [e]; show (2 : Int) ≠ 0; decide), e])
              clear hs hd hf HD HAS
              generalize u.globs[k] = x at q0 HF
              clear hlt
              go_wp2_with fail
              (with_reducible refine HF.out.mono ?_)
              rintro e w5 ⟨rfl, rfl⟩
              go_wp2
              go_ret2
              exact ⟨ret_ii HX.out, HS.out.2.2.1⟩
          · obtain rfl : k = u.globs.length := by omega
            have HS1 : Hid (ChkS w [.slice a1 u.recs.length c1, .slice a2 u.globs.length c2, .slice a3 u.procs.length c3] (.slice an (accG u u.globs.length).length cn) (accP u 0) wr) := Lib.hid (by rw [accP_zero]; exact HS.out)
            have HD1 := Lib.hid HD.out.over
            clear HS HD hs hd HLA
            go_wp2
            clear x1
            go_loopw [4, 7] (fun nv i wr => ∃ k : Nat, i = .int .i64 k ∧ k ≤ u.procs.length ∧ ChkS w [.slice a1 u.recs.length c1, .slice a2 u.globs.length c2, .slice a3 u.procs.length c3] nv (accP u k) wr ∧ DupP u k) (fun _ i _ => u.procs.length - (intOf i).toNat)
            case atStart => exact ⟨0, rfl, Nat.zero_le _, HS1.out, HD1.out⟩
            case round =>
              clear HS1 HD1
              obtain ⟨k, rfl, hk, hs, hd⟩ := hrel
              have HD := Lib.hid hd
              have HLA : Hid ((accP u k).length ≤ 1048576) := Lib.hid (by rw [accP_len u hk]; have := HBB.out; unfold Un.bulk recsB strsB procsB at this; have := HVL.out; unfold Un.valid nmOk at this; simp only [Bool.and_eq_true, decide_eq_true_eq] at this; omega)
              obtain ⟨an, cn, rfl⟩ := owns_slice hs.2.1
              have x2 := (hs.1 2 _ rfl).1
              by_cases hlt : k < u.procs.length
              · have HPO := Lib.hid (proc_ok HVL.out (List.getElem_mem hlt))
                obtain ⟨g, o, rfl, q0, ⟨y5, q1, k5⟩, ⟨y6, q2, k6⟩, ⟨q3, q4, q5, q6⟩, ⟨y7, q7, k7⟩, q8⟩ := proc_at (HU.out wr hs.2.2.1).2.2 k hlt
                have k0 : (0 : Int) ≤ k := by omega
                have k1 : (k : Int) < u.procs.length := by omega
                have HAS := Lib.hid (accP_succ hlt)
                have HFF := Lib.hid (fun W (hW : Is W (strsD (accP u k)) (.slice an (accP u k).length cn)) => spec_find _ (accP u k) u.procs[k].name W hW (by have := HLA.out; omega))
                obtain ⟨b1, hb1⟩ : ∃ b, (fx (accP u k) u.procs[k].name).isSome = b := ⟨_, rfl⟩
                obtain ⟨b2, hb2⟩ : ∃ b, twice (u.procs[k].params ++ u.procs[k].locals) = b := ⟨_, rfl⟩
                have HNX := Lib.hid (fun (h1 : b1 = false) (h2 : b2 = false) => HD.out.next hlt (hb1.trans h1) (hb2.trans h2))
                have HX := Lib.hid (fun (h1 : (b1 || b2) = true) => show fltU u = (2, u.procs[k].line) from by have e := HD.out.bad hlt (by rw [hb1, hb2]; exact h1); rw [fltU_dup (by rw [e]; show (2 : Int) ≠ 0; decide), e])
                have HB1 := Lib.hid hb1
                have HB2 := Lib.hid hb2
                clear hd HD hb1 hb2
                generalize u.procs[k] = p at q0 q1 q2 q3 q4 q5 q6 q7 q8 k5 k6 k7 HPO HAS HFF HX HB1 HB2
                have HLT := Lib.hid hlt
                clear hlt
                obtain ⟨e5, d5, rfl⟩ := is_slice k5
                obtain ⟨e6, d6, rfl⟩ := is_slice k6
                obtain ⟨e7, d7, rfl⟩ := kids_len k7
                have n3 := bl1 wr (.cells #[.string p.name, .slice e5 p.params.length d5, .slice e6 p.locals.length d6, .int .i64 p.body.kind, .string p.body.text, .int .i64 p.body.num, .int .i64 p.body.line, .slice e7 p.body.kids.length d7, .int .i64 p.line] 107)
                have VP := Lib.hid (Var.new wr #[.string p.name, .slice e5 p.params.length d5, .slice e6 p.locals.length d6, .int .i64 p.body.kind, .string p.body.text, .int .i64 p.body.num, .int .i64 p.body.line, .slice e7 p.body.kids.length d7, .int .i64 p.line] 107)
                obtain ⟨w3, hw3⟩ : ∃ W, wr.alloc (.cells #[.string p.name, .slice e5 p.params.length d5, .slice e6 p.locals.length d6, .int .i64 p.body.kind, .string p.body.text, .int .i64 p.body.num, .int .i64 p.body.line, .slice e7 p.body.kids.length d7, .int .i64 p.line] 107) = W := ⟨_, rfl⟩
                have HW3 := Lib.hid hw3
                have HZ3 : Hid (w3.heap.size = wr.heap.size + 1) := Lib.hid (by rw [← hw3, World.size_alloc])
                rw [hw3] at n3 VP
                have HS3 := Lib.hid (hs.later n3)
                have K5 := Lib.hid (fun W (hW : Below w3.heap.size w3 W) => (k5.later n3).later hW)
                have K6 := Lib.hid (fun W (hW : Below w3.heap.size w3 W) => (k6.later n3).later hW)
                have HPO1 : p.params.length ≤ 6 ∧ p.locals.length ≤ 8 := ⟨HPO.out.1, HPO.out.2.1⟩
                obtain ⟨lp, ll⟩ := HPO1
                clear n3 hw3 k5 k6 k7 hs
                have HSS : Hid (∀ W, Below w3.heap.size w3 W → (W.cell? ⟨wr.heap.size, 0, none⟩ = some (.string p.name) ∧ W.cell? ⟨wr.heap.size, 1, none⟩ = some (.slice e5 p.params.length d5) ∧ W.cell? ⟨wr.heap.size, 2, none⟩ = some (.slice e6 p.locals.length d6)) ∧ Below w3.heap.size w3 W) := Lib.hid (fun W hW => ⟨⟨((VP.out.later hW) 0 _ rfl).1, ((VP.out.later hW) 1 _ rfl).1, ((VP.out.later hW) 2 _ rfl).1⟩, hW⟩)
                cases b1
                case true =>
                  obtain ⟨j, hj⟩ := Option.isSome_iff_exists.1 HB1.out
                  have HF := Lib.hid (fun m => (HFF.out (w3.drewN m) (HS3.out.later (below_drewN (Below.refl _ _) m)).isN).mono (fun e W hh => (⟨hh.1, hh.2.symm⟩ : e = .returned (.int .i64 (fxI (accP u k) p.name)) ∧ W = w3.drewN m)))
                  rw [fxI_some hj] at HF
                  have HXX := Lib.hid (HX.out (by first | rfl | trivial))
                  clear hj HX HNX HFF HAS
                  go_wp2_with fail
                  rw [HW3.out]
                  clear x2 q0 q1 q2 q3 q4 q5 q6 q7 q8
                  have p0 := (VP.out 0 _ rfl).1
                  have p4 := (VP.out 8 _ rfl).1
                  go_wp2_with fail
                  go_quiet ((go_at_call 49; exact Calls.quiet_of_same (HF.out _)))
                  go_wp2
                  go_quiet (fail)
                  go_wp2
                  go_ret2
                  exact ⟨ret_ii HXX.out, below_drewN (below_drewN HS3.out.2.2.1 _) _⟩
                case false =>
                  have hj : fx (accP u k) p.name = none := by have := HB1.out; cases hx : fx (accP u k) p.name with | none => rfl | some j => rw [hx] at this; cases this
                  have HF := Lib.hid (fun W (hW : Below w3.heap.size w3 W) => HFF.out W (HS3.out.later hW).isN)
                  rw [fxI_none hj] at HF
                  have HTW := Lib.hid (fun (W : World) (B : Nat) (v : Value) (ho : Owns W B v ([] ++ p.params ++ p.locals)) => twice_at (l := [] ++ p.params ++ p.locals) (b := b2) (by rw [List.nil_append]; exact HB2.out) v W (Is.strs_of_owns ho) (by rw [List.nil_append, List.length_append]; omega))
                  clear hj HFF
                  go_wp2_with fail
                  rw [HW3.out]
                  clear x2 q0 q1 q2 q3 q4 q5 q6 q7 q8
                  go_wp2_with fail
                  go_region_held3 (fun W => (W.cell? ⟨wr.heap.size, 0, none⟩ = some (.string p.name) ∧ W.cell? ⟨wr.heap.size, 1, none⟩ = some (.slice e5 p.params.length d5) ∧ W.cell? ⟨wr.heap.size, 2, none⟩ = some (.slice e6 p.locals.length d6)) ∧ Below w3.heap.size w3 W)
                    (first | (with_reducible assumption) | (with_reducible exact HSS.out _ (Below.refl _ _).drew) | (with_reducible exact HSS.out _ (held_tt (by assumption) (bl1 _ _))) | (with_reducible exact HSS.out _ b5) | (with_reducible exact HSS.out _ b6))
                    (first
                      | (go_at_call 49; (with_reducible refine (HF.out _ (Below.refl _ _).drew).mono ?_); rintro e w4 ⟨rfl, rfl⟩)
                      | (refine step_append_moreG (B := w3.heap.size) (by simp [Region.wanted, yielded]) (.tmp 100) (.tmp 102) rfl rfl rfl (own_first w3.drew w3.heap.size rfl) (K5.out _ ((Below.refl w3.heap.size w3).drew.alloc (Nat.le_refl _) _)) (by simp; omega) (by simp) ?_; intro v5 w5 o5 g5 m5; have b5 := below_grown (w0 := w3) ((Below.refl w3.heap.size w3).drew.alloc (Nat.le_refl _) (.cells #[] 9)) (own_first w3.drew w3.heap.size rfl) (Nat.le_refl _) g5)
                      | (refine step_append_moreG (B := w3.heap.size) (by simp [Region.wanted, yielded]) (.tmp 103) (.tmp 105) rfl rfl rfl o5 (K6.out _ b5) (by simp; omega) b5.size ?_; intro v6 w6 o6 g6 m6; have b6 := below_grown b5 o5 (Nat.le_refl _) g6)
                      | (go_at_call 29; (with_reducible refine (HTW.out _ _ _ o6).mono ?_); rintro e w7 ⟨rfl, rfl⟩))
                  all_goals
                    have HB6 := Lib.hid b6
                    have HS6 := Lib.hid (HS3.out.later b6)
                    have VP6 := Lib.hid (VP.out.later b6)
                    clear o5 g5 m5 b5 o6 g6 m6 b6 HSS HF HTW K5 K6
                    cases b2
                    · have HNN := Lib.hid (HNX.out (by first | rfl | trivial) (by first | rfl | trivial))
                      clear HX HNX
                      have p0 := (VP6.out 0 _ rfl).1
                      go_wp2_with (at_builtin; refine wpList_append_str (B := w.heap.size + 1) rfl _ _ rfl rfl (owns_later HS6.out.2.1 (bl1 _ _)) ⟨_, 0, none⟩ p.name rfl ?c1 ?c2 ?c3 ?_)
                      case c1 => exact new_cell _ _ _ 0 _ rfl
                      case c2 => have := HLA.out; omega
                      case c3 => exact Nat.le_trans HS6.out.2.2.2 (bl1 _ _).size
                      intro g5 c5 w5 ho hg hm
                      have ho2 : Owns w5 (w.heap.size + 1) (.slice (some ⟨g5, 0, none⟩) ((accP u k).length + 1) c5) (accP u (k + 1)) := by rw [HAS.out]; exact ho
                      have HN := Lib.hid (ChkS.push (HS6.out.later (bl1 _ _)) ho2 hg)
                      clear ho ho2 hg hm p0
                      go_wp2
                      go_roundw
                      case rel => exact ⟨k + 1, by go_num, HLT.out, HN.out, HNN.out⟩
                      case measure => have := HLT.out; first | (simp [intOf]; done) | (simp [intOf]; omega)
                    · have HXX := Lib.hid (HX.out (by first | rfl | trivial))
                      clear HX HNX
                      have p4 := (VP6.out 8 _ rfl).1
                      go_wp2
                      go_quiet (fail)
                      go_wp2
                      go_ret2
                      exact ⟨ret_ii HXX.out, below_drewN HS6.out.2.2.1 _⟩
              · obtain rfl : k = u.procs.length := by omega
                have HDU := Lib.hid HD.out.over
                have HS1 : Hid (Var wr w.heap.size [.slice a1 u.recs.length c1, .slice a2 u.globs.length c2, .slice a3 u.procs.length c3] ∧ Below w.heap.size w wr ∧ w.heap.size + 1 ≤ wr.heap.size) := Lib.hid ⟨hs.1, hs.2.2⟩
                have HP0 := Lib.hid (prAt_zero u)
                clear HD hs hd HLA
                go_wp2
                clear x2
                go_loopw [9, 10] (fun mn i wr => ∃ k : Nat, i = .int .i64 k ∧ k ≤ u.procs.length ∧ mn = .bool ((u.procs.take k).any isMain) ∧ (Var wr w.heap.size [.slice a1 u.recs.length c1, .slice a2 u.globs.length c2, .slice a3 u.procs.length c3] ∧ Below w.heap.size w wr ∧ w.heap.size + 1 ≤ wr.heap.size) ∧ PrAt u k) (fun _ i _ => u.procs.length - (intOf i).toNat)
                case atStart => exact ⟨0, rfl, Nat.zero_le _, rfl, HS1.out, HP0.out⟩
                case round =>
                  clear HS1 HP0
                  obtain ⟨k, rfl, hk, rfl, ⟨hv, hbw, hsz⟩, hp⟩ := hrel
                  have HP := Lib.hid hp
                  have x2 := (hv 2 _ rfl).1
                  by_cases hlt : k < u.procs.length
                  · have HPO := Lib.hid (proc_ok HVL.out (List.getElem_mem hlt))
                    have HBK : Hid (u.procs[k].body.bulk ≤ 1048576) := Lib.hid (by
                      have h1 := wsum_mem Pc.bulk (List.getElem_mem hlt)
                      have h2 : u.procs[k].bulk = u.procs[k].name.size + (strsB u.procs[k].params + (strsB u.procs[k].locals + u.procs[k].body.bulk)) := rfl
                      have := HBB.out
                      unfold Un.bulk procsB at this
                      omega)
                    have HLE := Lib.hid (lnames_at HVL.out hlt)
                    have HLL := Lib.hid (locs_len u u.procs[k])
                    have HMS := Lib.hid (mains_succ hlt)
                    obtain ⟨g, o, rfl, q0, ⟨y5, q1, k5⟩, ⟨y6, q2, k6⟩, ⟨q3, q4, q5, q6⟩, ⟨y7, q7, k7⟩, q8⟩ := proc_at (HU.out wr hbw).2.2 k hlt
                    have k0 : (0 : Int) ≤ k := by omega
                    have k1 : (k : Int) < u.procs.length := by omega
                    have HNX := Lib.hid (fun (h1 : (fltP u u.procs[k]).1 = 0) => HP.out.next hlt h1)
                    have HX := Lib.hid (fun (h1 : (fltP u u.procs[k]).1 ≠ 0) => show fltU u = fltP u u.procs[k] from by have e := HP.out.bad hlt h1; rw [fltU_proc HDU.out (by rw [e]; exact h1), e])
                    clear hp HP
                    generalize u.procs[k] = p at q0 q1 q2 q3 q4 q5 q6 q7 q8 k5 k6 k7 HPO HBK HLE HLL HMS HNX HX
                    have HLT := Lib.hid hlt
                    clear hlt
                    obtain ⟨e5, d5, rfl⟩ := is_slice k5
                    obtain ⟨e6, d6, rfl⟩ := is_slice k6
                    obtain ⟨e7, d7, rfl⟩ := kids_len k7
                    have n3 := bl1 wr (.cells #[.string p.name, .slice e5 p.params.length d5, .slice e6 p.locals.length d6, .int .i64 p.body.kind, .string p.body.text, .int .i64 p.body.num, .int .i64 p.body.line, .slice e7 p.body.kids.length d7, .int .i64 p.line] 107)
                    have VP := Lib.hid (Var.new wr #[.string p.name, .slice e5 p.params.length d5, .slice e6 p.locals.length d6, .int .i64 p.body.kind, .string p.body.text, .int .i64 p.body.num, .int .i64 p.body.line, .slice e7 p.body.kids.length d7, .int .i64 p.line] 107)
                    obtain ⟨w3, hw3⟩ : ∃ W, wr.alloc (.cells #[.string p.name, .slice e5 p.params.length d5, .slice e6 p.locals.length d6, .int .i64 p.body.kind, .string p.body.text, .int .i64 p.body.num, .int .i64 p.body.line, .slice e7 p.body.kids.length d7, .int .i64 p.line] 107) = W := ⟨_, rfl⟩
                    have HW3 := Lib.hid hw3
                    rw [hw3] at n3 VP
                    have B3 := Lib.hid (below_then hbw n3)
                    have V3 := Lib.hid (hv.keep (n3.block _ hsz))
                    have HZ3 : Hid (w.heap.size + 1 ≤ w3.heap.size) := Lib.hid (Nat.le_trans hsz n3.size)
                    have K7 := Lib.hid (k7.later n3)
                    have HC := Lib.hid (HLN.out w3 B3.out k)
                    rw [HLE.out] at HC
                    have HWK := Lib.hid (fun (W : World) (hW : Below w.heap.size w W) (vl : Value) (hvl : Is W (strsD (locs u p)) vl) (hx : Kids W (.slice e7 p.body.kids.length d7) p.body.kids) => spec_walk u HBB.out W _ _ _ vl (locs u p) (HU.out W hW) hvl (by have h1 := HLL.out; have h2 := HPO.out; omega) _ p.body (Nat.le_refl _) HBK.out false false W _ hx (Below.refl _ _))
                    unfold RetII at HWK
                    have HCS := Lib.hid (fun (W : World) (hx : Kids W (.slice e7 p.body.kids.length d7) p.body.kids) => spec_cases _ p.body (Nat.le_refl _) (by have h2 := HPO.out; omega) W _ hx)
                    have hl26 : ((locs u p).length : Int) ≤ 1000 := by have h1 := HLL.out; have h2 := HPO.out; omega
                    have hcs : (csN p.body : Int) ≤ 1000 := by have h1 := csN_le p.body; have h2 := HPO.out; omega
                    have HFW := Lib.hid (fltP_walk (u := u) (p := p))
                    have HFS := Lib.hid (fltP_slots (u := u) (p := p))
                    have HFF := Lib.hid (fltP_fine (u := u) (p := p))
                    have HMD : Hid (isMain p = (eqN p.name ⟨#[109, 97, 105, 110]⟩ && p.params.length == 0)) := Lib.hid rfl
                    clear n3 hw3 k5 k6 k7 hv hbw hsz HLL HLE
                    generalize locs u p = L at HC HWK hl26 HFW HFS HFF
                    obtain ⟨pw, hpw⟩ : ∃ q, wlk u L p.body false false = q := ⟨_, rfl⟩
                    rw [hpw] at HWK HFW HFS HFF
                    clear hpw
                    generalize csN p.body = cs at HCS hcs HFS HFF
                    have hcs0 : (0 : Int) ≤ cs := by omega
                    have hl0 : (0 : Int) ≤ L.length := by omega
                    have x0 := (V3.out 0 _ rfl).1
                    have x1 := (V3.out 1 _ rfl).1
                    have x2b := (V3.out 2 _ rfl).1
                    rw [← HW3.out] at x0 x1 x2b
                    go_wp2_with fail
                    rw [HW3.out]
                    clear x2 x2b q0 q1 q2 q3 q4 q5 q6 q7 q8
                    (with_reducible refine HC.out.mono ?_)
                    rintro e w4 ⟨vl, rfl, o4, b4⟩
                    have B4 := Lib.hid (below_then B3.out b4)
                    have V4 := Lib.hid (V3.out.keep (b4.block _ HZ3.out))
                    have P4 := Lib.hid (VP.out.later b4)
                    have K4 := Lib.hid (K7.out.later b4)
                    have HZ4 : Hid (w.heap.size + 1 ≤ w4.heap.size) := Lib.hid (Nat.le_trans HZ3.out b4.size)
                    have HWC := Lib.hid (HWK.out w4 B4.out vl (Is.strs_of_owns o4) K4.out)
                    obtain ⟨al, cl, rfl⟩ := owns_slice o4
                    clear o4 b4 x0 x1 HWK HC
                    have x0 := (V4.out 0 _ rfl).1
                    have x1 := (V4.out 1 _ rfl).1
                    have x2 := (V4.out 2 _ rfl).1
                    have q3 := (P4.out 3 _ rfl).1
                    have q4 := (P4.out 4 _ rfl).1
                    have q5 := (P4.out 5 _ rfl).1
                    have q6 := (P4.out 6 _ rfl).1
                    have q7 := (P4.out 7 _ rfl).1
                    go_wp2_with fail
                    (with_reducible refine HWC.out.mono ?_)
                    rintro e w5 ⟨rfl, b5⟩
                    have B5 := Lib.hid (below_then B4.out b5)
                    have V5 := Lib.hid (V4.out.keep (b5.block _ HZ4.out))
                    have P5 := Lib.hid (P4.out.later b5)
                    have K5 := Lib.hid (K4.out.later b5)
                    have HZ5 : Hid (w.heap.size + 1 ≤ w5.heap.size) := Lib.hid (Nat.le_trans HZ4.out b5.size)
                    clear b5 x0 x1 x2 q3 q4 q5 q6 q7 HWC
                    by_cases hz : pw.1 = 0
                    · have tz : (pw.1 != 0) = false := by simp [hz]
                      have HZZ := Lib.hid hz
                      have HCC := Lib.hid (HCS.out w5 K5.out)
                      clear hz
                      have q3 := (P5.out 3 _ rfl).1
                      have q4 := (P5.out 4 _ rfl).1
                      have q5 := (P5.out 5 _ rfl).1
                      have q6 := (P5.out 6 _ rfl).1
                      have q7 := (P5.out 7 _ rfl).1
                      go_wp2_with fail
                      (with_reducible refine HCC.out.mono ?_)
                      rintro e w6 ⟨rfl, b6⟩
                      have B6 := Lib.hid (below_then B5.out b6)
                      have V6 := Lib.hid (V5.out.keep (b6.block _ HZ5.out))
                      have P6 := Lib.hid (P5.out.later b6)
                      have HZ6 : Hid (w.heap.size + 1 ≤ w6.heap.size) := Lib.hid (Nat.le_trans HZ5.out b6.size)
                      clear b6 q3 q4 q5 q6 q7 HCC
                      by_cases hgt : (24 : Int) < (L.length : Int) + cs
                      · have HFX := Lib.hid (HFS.out HZZ.out (by omega))
                        have HXX := Lib.hid (show fltU u = (7, p.line) from by rw [HX.out (by rw [HFX.out]; show (7 : Int) ≠ 0; decide), HFX.out])
                        have p8 := (P6.out 8 _ rfl).1
                        clear HX HNX HFS HFF HFW
                        go_wp2
                        go_quiet (fail)
                        go_wp2
                        go_ret2
                        exact ⟨ret_ii HXX.out, below_drewN B6.out _⟩
                      · have HFX := Lib.hid (HFF.out HZZ.out (by omega))
                        have HNN := Lib.hid (HNX.out (by rw [HFX.out]))
                        clear HX HNX HFS HFF HFW
                        have p0 := (P6.out 0 _ rfl).1
                        have p1 := (P6.out 1 _ rfl).1
                        cases hm : (u.procs.take k).any isMain
                        case true =>
                          have HM2 : Hid (((u.procs.take (k + 1)).any isMain) = true) := Lib.hid (by rw [HMS.out, hm]; rfl)
                          clear hm HMS
                          go_wp2
                          go_roundw
                          case rel => exact ⟨k + 1, by go_num, HLT.out, by rw [HM2.out], ⟨V6.out, B6.out, HZ6.out⟩, HNN.out⟩
                          case measure => have := HLT.out; first | (simp [intOf]; done) | (simp [intOf]; omega)
                        case false =>
                          have HM2 : Hid (((u.procs.take (k + 1)).any isMain) = (eqN p.name ⟨#[109, 97, 105, 110]⟩ && p.params.length == 0)) := Lib.hid (by rw [HMS.out, hm, HMD.out]; rfl)
                          clear hm HMS
                          cases he : eqN p.name ⟨#[109, 97, 105, 110]⟩
                          case false =>
                            have t1 : (p.name.toList == [109, 97, 105, 110]) = false := main_at he
                            have HM3 : Hid (((u.procs.take (k + 1)).any isMain) = false) := Lib.hid (by rw [HM2.out, he]; rfl)
                            clear he HM2
                            go_wp2
                            go_roundw
                            case rel => exact ⟨k + 1, by go_num, HLT.out, by rw [HM3.out], ⟨V6.out, B6.out, HZ6.out⟩, HNN.out⟩
                            case measure => have := HLT.out; first | (simp [intOf]; done) | (simp [intOf]; omega)
                          case true =>
                            have t1 : (p.name.toList == [109, 97, 105, 110]) = true := main_at he
                            by_cases hz0 : p.params.length = 0
                            · have t2 : ((p.params.length : Int) == 0) = true := by simp [hz0]
                              have HM3 : Hid (((u.procs.take (k + 1)).any isMain) = true) := Lib.hid (by rw [HM2.out, he, hz0]; rfl)
                              clear he HM2 hz0
                              go_wp2
                              go_roundw
                              case rel => exact ⟨k + 1, by go_num, HLT.out, by rw [HM3.out], ⟨V6.out, B6.out, HZ6.out⟩, HNN.out⟩
                              case measure => have := HLT.out; first | (simp [intOf]; done) | (simp [intOf]; omega)
                            · have t2 : ((p.params.length : Int) == 0) = false := kind_nb (by omega)
                              have HM3 : Hid (((u.procs.take (k + 1)).any isMain) = false) := Lib.hid (by rw [HM2.out, he]; simp [hz0])
                              clear he HM2 hz0
                              go_wp2
                              go_roundw
                              case rel => exact ⟨k + 1, by go_num, HLT.out, by rw [HM3.out], ⟨V6.out, B6.out, HZ6.out⟩, HNN.out⟩
                              case measure => have := HLT.out; first | (simp [intOf]; done) | (simp [intOf]; omega)
                    · have tz : (pw.1 != 0) = true := by simp [hz]
                      have HFX := Lib.hid (HFW.out hz)
                      have HXX := Lib.hid (show fltU u = pw from by rw [HX.out (by rw [HFX.out]; exact hz), HFX.out])
                      clear hz HX HNX HFW HFS HFF
                      go_wp2
                      go_ret2
                      exact ⟨ret_ii2 HXX.out, B5.out⟩
                  · obtain rfl : k = u.procs.length := by omega
                    rw [List.take_length]
                    have HPX := Lib.hid HP.out.over
                    have HBW := Lib.hid hbw
                    clear HP hp hv hsz
                    cases hm : u.procs.any isMain
                    case true =>
                      have HXX := Lib.hid (fltU_main HDU.out HPX.out hm)
                      clear hm
                      go_wp2
                      go_ret2
                      exact ⟨ret_ii HXX.out, HBW.out⟩
                    case false =>
                      have HXX := Lib.hid (fltU_none HDU.out HPX.out hm)
                      clear hm
                      go_wp2
                      go_ret2
                      exact ⟨ret_ii HXX.out, HBW.out⟩

end Go.Proofs.YtbadepiakkhabaaDoor
