/- Joined texts: V44, V26, V23. No conditions besides those that each states. -/
import Derived.Lib.AppendZeros
import Derived.Test.YtckjmmapekaapaaGreatDoorZ20
import Derived.Test.YtckjmmapekaapaaGreatDoorZ29
import Derived.Test.YtckjmmapekaapaaGreatDoorZ37
/- The program's sets of names: adding names, distinct names. The table reads as the program's text lays it. -/
namespace Go.Proofs.YtckjmmapekaapaaGreatDoor
open Go.RowKit
set_option linter.unusedVariables false

def AddB (b n : Nat) (f : ByteArray → Bool) (r : Bool) (w : World) (e : Ending) (w' : World) : Prop := e = .returned (.bool r) ∧ SetM w' b n f ∧ w.grownBy w' (some b)
set_option maxRecDepth 100000 in
set_option maxHeartbeats 3200000 in
theorem impl_add (b n : Nat) (f : ByteArray → Bool) (l : List ByteArray) (v : Value) (w : World) (h : SetM w b n f) (hk : Is w (strsD l) v) (hs : ∀ s ∈ l, s.size ≤ maxLen) (hn : n + l.length ≤ 16777216) :
    Calls Tryz.prog 86 #[.map (some b), v] w (AddB b (n + l.length) (addL f l) (newAt f l l.length) w) := by
  unfold AddB
  obtain ⟨a, c, rfl⟩ := is_slice hk
  have HK := Lib.hid hk
  have HM := Lib.hid h
  have HS := Lib.hid hs
  have HST : Hid (SetM w b (n + 0) (addL f (l.take 0))) := Lib.hid (h.congr (addL_zero f l))
  have hl : (l.length : Int) ≤ 16777216 := by omega
  have HN := Lib.hid hn
  clear hk h hs hn
  go_enter Tryz.func86, Tryz.ntmps86
  go_wp2
  go_loopw [5, 7, 10] (fun r _ i wr => ∃ k : Nat, i = .int .i64 k ∧ k ≤ l.length ∧ r = .bool (newAt f l k) ∧ SetM wr b (n + k) (addL f (l.take k)) ∧ w.grownBy wr (some b)) (fun _ _ i _ => l.length - (intOf i).toNat)
  case atStart => exact ⟨0, rfl, Nat.zero_le _, rfl, HST.out, grown_refl _⟩
  case round =>
    clear HST
    obtain ⟨k, rfl, hk, rfl, hm, hg⟩ := hrel
    have HMK := Lib.hid hm
    have HG := Lib.hid hg
    by_cases hlt : k < l.length
    · obtain ⟨g, o, rfl, q0⟩ := str_at (Is.mono (subw_set HM.out hg) _ _ HK.out) k hlt
      have HSK := Lib.hid (HS.out l[k] (List.getElem_mem hlt))
      have HL := Lib.hid (hm.look HSK.out)
      have HAN := Lib.hid (newAt_succ f l k hlt)
      have HAL := Lib.hid (fun s => addL_succ f l k hlt s)
      have HNK : Hid (n + k < maxLen) := Lib.hid (by have := HN.out; unfold maxLen; omega)
      have k0 : (0 : Int) ≤ (k : Int) := by omega
      have k1 : (k : Int) < l.length := by omega
      obtain ⟨y, hy⟩ : ∃ y, addL f (l.take k) l[k] = y := ⟨_, rfl⟩
      rw [hy] at HL HAN
      clear hm hg hy
      generalize l[k] = x at q0 HSK HL HAL
      have HLT := Lib.hid hlt
      clear hlt
      cases hb : newAt f l k
      · rw [hb] at HAN
        clear hb
        go_wp2_with (at_mapUpdate; refine wpList_mark rfl _ _ _ rfl rfl rfl rfl HMK.out HSK.out HNK.out ?_; intro w2 hm2 hg2)
        have HM2 : Hid (SetM w2 b (n + (k + 1)) (addL f (l.take (k + 1)))) := Lib.hid (hm2.congr HAL.out)
        have HG2 := Lib.hid (grownr_trans HG.out hg2)
        clear hm2 hg2 q0
        go_roundw
        case rel => exact ⟨k + 1, by go_num, HLT.out, by rw [HAN.out]; rfl, HM2.out, HG2.out⟩
        case measure => have := HLT.out; first | (simp [intOf]; done) | (simp [intOf]; omega)
      · rw [hb] at HAN
        have hl2 := HL.out
        clear hb
        go_wp2_with (at_mapUpdate; refine wpList_mark rfl _ _ _ rfl rfl rfl rfl HMK.out HSK.out HNK.out ?_; intro w2 hm2 hg2)
        have HM2 : Hid (SetM w2 b (n + (k + 1)) (addL f (l.take (k + 1)))) := Lib.hid (hm2.congr HAL.out)
        have HG2 := Lib.hid (grownr_trans HG.out hg2)
        clear hm2 hg2 q0 hl2
        go_roundw
        case rel => exact ⟨k + 1, by go_num, HLT.out, by rw [HAN.out]; rfl, HM2.out, HG2.out⟩
        case measure => have := HLT.out; first | (simp [intOf]; done) | (simp [intOf]; omega)
    · obtain rfl : k = l.length := by omega
      rw [List.take_length] at HMK
      clear hm hg
      go_wp2
      go_ret
      exact ⟨rfl, HMK.out, HG.out⟩
theorem names_set {w w' : World} {b n : Nat} {f : ByteArray → Bool} (h : NamesAt w) (hm : SetM w b n f) (hg : w.grownBy w' (some b)) : NamesAt w' := h.keep (hg.block _ h.lt (fun e => by
  obtain ⟨t, fr, h1⟩ := h
  obtain ⟨o, h2, h3⟩ := hm.obj
  rw [Option.some.inj e, h2] at h1
  obtain rfl := Option.some.inj h1
  cases h3))
set_option maxRecDepth 100000 in
set_option maxHeartbeats 1600000 in
theorem impl_addFree (b n : Nat) (f : ByteArray → Bool) (s : ByteArray) (w : World) (h : SetM w b n f) (hN : NamesAt w) (hs : s.size ≤ maxLen) (hn : n + 1 ≤ 16777216) :
    Calls Tryz.prog 84 #[.map (some b), .string s] w (AddB b (n + 1) (addS f s) (!(f s) && (fx funL s).isNone) w) := by
  unfold AddB
  have n1 := bl1 w (.cells #[.string s] 9)
  have HC := Lib.hid (impl_add b n f [s] _ _ (h.later n1) (is_strs_new w [s] 9 #[.string s] rfl) (fun x hx => by rw [List.mem_singleton.1 hx]; exact hs) (by simpa using hn))
  unfold AddB at HC
  rw [show ([s] : List ByteArray).length = 1 from rfl, newAt_one] at HC
  have HM := Lib.hid (h.later n1)
  have HNA := Lib.hid (hN.later n1)
  have HG1 := Lib.hid (grown_alloc w (.cells #[.string s] 9) (some b))
  have HA := Lib.hid (fun x => (addL_one f s x).symm)
  obtain ⟨y, hy⟩ : ∃ y, f s = y := ⟨_, rfl⟩
  rw [hy] at HC ⊢
  clear h hN n1 hn hy
  cases y
  · have HFN := Lib.hid (fun W hW => impl_fnumber s W hW)
    rcases hg : fx funL s with _ | j
    · rw [fxI_none hg] at HFN
      clear hg
      go_enter Tryz.func84, Tryz.ntmps84
      go_wp2_with fail
      (with_reducible refine HC.out.mono ?_)
      rintro e w2 ⟨rfl, hm2, hg2⟩
      have HM2 := Lib.hid (hm2.congr HA.out)
      have HG2 := Lib.hid (grownr_trans HG1.out hg2)
      have HN2 := Lib.hid (names_set HNA.out HM.out hg2)
      clear hm2 hg2
      go_wp2_with fail
      (with_reducible refine (HFN.out w2 HN2.out).mono ?_)
      rintro e w3 ⟨rfl, rfl⟩
      go_wp2
      go_ret
      exact ⟨rfl, HM2.out, HG2.out⟩
    · rw [fxI_some hg] at HFN
      clear hg
      go_enter Tryz.func84, Tryz.ntmps84
      go_wp2_with fail
      (with_reducible refine HC.out.mono ?_)
      rintro e w2 ⟨rfl, hm2, hg2⟩
      have HM2 := Lib.hid (hm2.congr HA.out)
      have HG2 := Lib.hid (grownr_trans HG1.out hg2)
      have HN2 := Lib.hid (names_set HNA.out HM.out hg2)
      clear hm2 hg2
      go_wp2_with fail
      (with_reducible refine (HFN.out w2 HN2.out).mono ?_)
      rintro e w3 ⟨rfl, rfl⟩
      go_wp2
      go_ret
      exact ⟨rfl, HM2.out, HG2.out⟩
  · go_enter Tryz.func84, Tryz.ntmps84
    go_wp2_with fail
    (with_reducible refine HC.out.mono ?_)
    rintro e w2 ⟨rfl, hm2, hg2⟩
    have HM2 := Lib.hid (hm2.congr HA.out)
    have HG2 := Lib.hid (grownr_trans HG1.out hg2)
    clear hm2 hg2
    go_wp2
    go_ret
    exact ⟨rfl, HM2.out, HG2.out⟩
set_option maxHeartbeats 1600000 in
theorem impl_distinct (l : List ByteArray) (v : Value) (w : World) (hk : Is w (strsD l) v) (hs : ∀ s ∈ l, s.size ≤ maxLen) (hn : l.length ≤ 1048576) :
    Calls Tryz.prog 85 #[v] w fun e w' => e = .returned (.bool (!(twice l))) ∧ Below w.heap.size w w' := by
  have n1 := bl1 w (.map #[] 0)
  have HC := Lib.hid (impl_add w.heap.size 0 (fun _ => false) l v (w.alloc (.map #[] 0)) (SetM.made w) (hk.later n1) hs (by omega))
  unfold AddB at HC
  rw [newAt_twice] at HC
  obtain ⟨a, c, rfl⟩ := is_slice hk
  have hrm := @run_makeMap Tryz.prog
  clear hk hs n1
  go_enter Tryz.func85, Tryz.ntmps85
  go_wp2_with fail
  (with_reducible refine HC.out.mono ?_)
  rintro e w2 ⟨rfl, hm2, hg2⟩
  have HB : Hid (Below w.heap.size w w2) := Lib.hid ((bl1 w (.map #[] 0)).trans ((Below.refl w.heap.size _).grown hg2 (bl1 w (.map #[] 0)).size (fun k e => by cases e; exact Nat.le_refl _)))
  clear hm2 hg2 hrm
  go_wp2
  go_ret
  exact ⟨rfl, HB.out⟩
end Go.Proofs.YtckjmmapekaapaaGreatDoor
/- The program's names that are declared outside of procedures. No conditions. -/
namespace Go.Proofs.YtckjmmapekaapaaGreatDoor
open Go.RowKit
set_option linter.unusedVariables false

/-- What names mean by four lists: the local ones, records, globals, procedures. -/
def mean4 (L R G P : List ByteArray) (s : ByteArray) : Option (Int × Int) :=
  match fx L s with
  | some k => some (1, k)
  | none => match fx R s with
    | some k => some (5, k)
    | none => match fx G s with
      | some k => some (2, k)
      | none => match fx P s with
        | some k => some (3, k)
        | none => none
theorem mean4_loc (L : List ByteArray) (x s : ByteArray) : mean4 (L ++ [x]) [] [] [] s = decl (mean4 L [] [] []) x (1, (L.length : Int)) s := by
  unfold decl mean4
  rw [fx_snoc]
  generalize fx L s = a
  cases a <;> cases eqN x s <;> simp [fx_nil]
theorem mean4_rec (L R : List ByteArray) (x s : ByteArray) : mean4 L (R ++ [x]) [] [] s = decl (mean4 L R [] []) x (5, (R.length : Int)) s := by
  unfold decl mean4
  rw [fx_snoc]
  generalize fx L s = a
  generalize fx R s = b
  cases a <;> cases b <;> cases eqN x s <;> simp [fx_nil]
theorem mean4_glob (L R G : List ByteArray) (x s : ByteArray) : mean4 L R (G ++ [x]) [] s = decl (mean4 L R G []) x (2, (G.length : Int)) s := by
  unfold decl mean4
  rw [fx_snoc]
  generalize fx L s = a
  generalize fx R s = b
  generalize fx G s = c
  cases a <;> cases b <;> cases c <;> cases eqN x s <;> simp [fx_nil]
theorem mean4_proc (L R G P : List ByteArray) (x s : ByteArray) : mean4 L R G (P ++ [x]) s = decl (mean4 L R G P) x (3, (P.length : Int)) s := by
  unfold decl mean4
  rw [fx_snoc]
  generalize fx L s = a
  generalize fx R s = b
  generalize fx G s = c
  generalize fx P s = d
  cases a <;> cases b <;> cases c <;> cases d <;> cases eqN x s <;> simp
/-- What names mean in a procedure whose local names these are. -/
def meanU (u : Un) (L : List ByteArray) : ByteArray → Option (Int × Int) := mean4 L (u.recs.map Rc.name) u.globs (u.procs.map Pc.name)
theorem meanU_loc (u : Un) (L : List ByteArray) (x s : ByteArray) (hx : meanU u L x = none) : meanU u (L ++ [x]) s = decl (meanU u L) x (1, (L.length : Int)) s := by
  by_cases h : s = x
  · subst h
    unfold decl
    rw [hx]
    unfold meanU mean4 at hx ⊢
    rw [fx_snoc, eqN_self]
    generalize fx L s = a at hx ⊢
    cases a <;> simp_all
  · unfold decl meanU mean4
    rw [fx_snoc, eqN_ne (fun e => h e.symm)]
    generalize fx L s = a
    generalize fx (u.recs.map Rc.name) s = b
    generalize fx u.globs s = c
    generalize fx (u.procs.map Pc.name) s = d
    cases a <;> cases b <;> cases c <;> cases d <;> simp
theorem meanOf_means (u : Un) (L : List ByteArray) (s : ByteArray) : meanOf (meanU u L) s = means u L s := by
  unfold meanOf meanU mean4 means outer
  cases fx L s with
  | some k => rfl
  | none =>
    cases fx (u.recs.map Rc.name) s with
    | some k => rfl
    | none =>
      cases fx u.globs s with
      | some k => rfl
      | none =>
        cases fx (u.procs.map Pc.name) s with
        | some k => rfl
        | none => rfl
theorem take_map_name {α : Type} (f : α → ByteArray) (l : List α) (k : Nat) (hk : k < l.length) : (l.map f).take (k + 1) = (l.map f).take k ++ [f l[k]] := by
  rw [List.take_succ_eq_append_getElem (by simpa using hk)]
  simp
def OutR (w : World) (b : Nat) (n : Nat) (f : ByteArray → Option (Int × Int)) (wr : World) : Prop := MapM wr b n f ∧ w.grownBy wr (some b)
theorem OutR.is {w wr : World} {b n : Nat} {f : ByteArray → Option (Int × Int)} (h : OutR w b n f wr) {d : D} {v : Value} : True := trivial
theorem is_grown {w w' : World} {d : D} {v : Value} {w0 : World} {b : Nat} (h : Is w0 d v) (hb : Below w0.heap.size w0 w) (hg : w.grownBy w' (some b)) (hB : w0.heap.size ≤ b) : Is w' d v :=
  h.later (hb.trans ⟨hg.os, hg.tape, hg.output, hg.size, fun i hi => hg.block i (Nat.lt_of_lt_of_le hi hb.size) (fun e => by injection e with e; omega)⟩)
theorem below_by {w0 w w' : World} {b : Nat} (hb : Below w0.heap.size w0 w) (hg : w.grownBy w' (some b)) (hB : w0.heap.size ≤ b) : Below w0.heap.size w0 w' :=
  hb.trans ⟨hg.os, hg.tape, hg.output, hg.size, fun i hi => hg.block i (Nat.lt_of_lt_of_le hi hb.size) (fun e => by injection e with e; omega)⟩
/-- How long the names are. -/
def UnNames (u : Un) : Prop := (∀ r ∈ u.recs, r.name.size ≤ maxLen) ∧ (∀ s ∈ u.globs, s.size ≤ maxLen) ∧ (∀ p ∈ u.procs, p.name.size ≤ maxLen) ∧ u.recs.length ≤ 8 ∧ u.globs.length ≤ 12 ∧ u.procs.length ≤ 12
set_option maxRecDepth 100000 in
set_option maxHeartbeats 3200000 in
theorem impl_outside (u : Un) (hu : UnNames u) (w0 : World) (v1 v2 v3 : Value) (h : UnIs w0 u v1 v2 v3) (gu ou : Nat) (c1 : w0.cell? ⟨gu, ou, none⟩ = some v1) (c2 : w0.cell? ⟨gu, ou + 1, none⟩ = some v2) (c3 : w0.cell? ⟨gu, ou + 2, none⟩ = some v3)
    (L : List ByteArray) (b n : Nat) (hn : n ≤ 100000) (hb0 : w0.heap.size ≤ b) (w : World) (hw : Below w0.heap.size w0 w) (hm : MapM w b n (mean4 L [] [] [])) :
    Calls Tryz.prog 51 #[.map (some b), .pointer (some ⟨gu, ou, none⟩)] w (DeclR b (n + 32) (meanU u L) w) := by
  unfold DeclR
  obtain ⟨h1, h2, h3⟩ := h
  obtain ⟨a1, d1, rfl⟩ := is_slice h1
  obtain ⟨a2, d2, rfl⟩ := is_slice h2
  obtain ⟨a3, d3, rfl⟩ := is_slice h3
  have HU := Lib.hid hu
  have HW := Lib.hid hw
  have C1 := Lib.hid (fun W (hW : Below w0.heap.size w0 W) => subw_below hW _ _ _ c1)
  have C2 := Lib.hid (fun W (hW : Below w0.heap.size w0 W) => subw_below hW _ _ _ c2)
  have C3 := Lib.hid (fun W (hW : Below w0.heap.size w0 W) => subw_below hW _ _ _ c3)
  have H1 := Lib.hid h1
  have H2 := Lib.hid h2
  have H3 := Lib.hid h3
  have HST : Hid (OutR w b (n + 0) (mean4 L ((u.recs.map Rc.name).take 0) [] []) w) := Lib.hid ⟨hm, grown_refl _⟩
  have c1 := C1.out w hw
  have hB := Lib.hid hb0
  obtain ⟨l1, l2, l3⟩ := hu.2.2.2
  clear h1 h2 h3 hu hm c2 c3 hb0
  go_enter Tryz.func51, Tryz.ntmps51
  go_wp2
  go_loopw [4, 5, 15] (fun _ _ i wr => ∃ k : Nat, i = .int .i64 k ∧ k ≤ u.recs.length ∧ OutR w b (n + k) (mean4 L ((u.recs.map Rc.name).take k) [] []) wr) (fun _ _ i _ => u.recs.length - (intOf i).toNat)
  case atStart => exact ⟨0, rfl, Nat.zero_le _, HST.out⟩
  case round =>
    clear HST
    obtain ⟨k, rfl, hk, hr⟩ := hrel
    have HR := Lib.hid hr
    have hbw := below_by HW.out hr.2 hB.out
    have HBW := Lib.hid hbw
    clear hr
    by_cases hlt : k < u.recs.length
    · obtain ⟨g, o, rfl, q0, ⟨y1, q1, e1⟩, q2⟩ := rec_at (H1.out.later hbw) k hlt
      obtain ⟨z1, f1, rfl⟩ := is_slice e1
      clear e1
      have k0 : (0 : Int) ≤ (k : Int) := by omega
      have k1 : (k : Int) < u.recs.length := by omega
      have HX := Lib.hid (HU.out.1 u.recs[k] (List.getElem_mem hlt))
      have HT := Lib.hid (take_map_name Rc.name u.recs k hlt)
      have n1 := bl1 wr (.cells #[.string u.recs[k].name, .slice z1 u.recs[k].fields.length f1, .int .i64 u.recs[k].line] 69)
      have VN := Lib.hid (Var.new wr #[.string u.recs[k].name, .slice z1 u.recs[k].fields.length f1, .int .i64 u.recs[k].line] 69)
      have HN1 := Lib.hid (grown_alloc wr (.cells #[.string u.recs[k].name, .slice z1 u.recs[k].fields.length f1, .int .i64 u.recs[k].line] 69) (some b))
      have HLL : Hid ((((u.recs.map Rc.name).take k).length : Int) = (k : Int)) := Lib.hid (by rw [List.length_take, List.length_map]; omega)
      have HC := Lib.hid (impl_declare b (n + k) (mean4 L ((u.recs.map Rc.name).take k) [] []) u.recs[k].name 5 (k : Int) _ (HR.out.1.later n1) HX.out (by unfold maxLen; omega))
      unfold DeclR at HC
      have HE := Lib.hid (fun s => (mean4_rec L ((u.recs.map Rc.name).take k) u.recs[k].name s))
      rw [HLL.out, ← HT.out] at HE
      clear n1 hbw HT HX
      generalize u.recs[k] = x at q0 q1 q2 VN HN1 HC HE
      go_wp2_with fail
      refine HC.out.mono ?_
      rintro e w2 ⟨rfl, hm2, hg2⟩
      have HN2 : Hid (OutR w b (n + (k + 1)) (mean4 L ((u.recs.map Rc.name).take (k + 1)) [] []) w2) := Lib.hid ⟨hm2.congr HE.out, grownr_trans HR.out.2 (grownr_trans HN1.out hg2)⟩
      clear hm2 hg2 q0 q1 q2
      go_wp2
      go_roundw
      case rel => exact ⟨k + 1, by go_num, by omega, HN2.out⟩
      case measure => first | (simp [intOf]; done) | (simp [intOf]; omega)
    · obtain rfl : k = u.recs.length := by omega
      have HR2 : Hid (OutR w b (n + 8 + 0) (mean4 L (u.recs.map Rc.name) (u.globs.take 0) []) wr) := by
        have e : (u.recs.map Rc.name).take u.recs.length = u.recs.map Rc.name := by rw [List.take_of_length_le (by simp)]
        rw [e] at HR
        exact Lib.hid ⟨HR.out.1.mono (by omega), HR.out.2⟩
      have c2 := C2.out wr hbw
      clear HR HBW hbw
      go_wp2
      go_loopw [6, 7, 31] (fun _ _ i wr => ∃ k : Nat, i = .int .i64 k ∧ k ≤ u.globs.length ∧ OutR w b (n + 8 + k) (mean4 L (u.recs.map Rc.name) (u.globs.take k) []) wr) (fun _ _ i _ => u.globs.length - (intOf i).toNat)
      case atStart => exact ⟨0, rfl, Nat.zero_le _, HR2.out⟩
      case round =>
        clear HR2
        obtain ⟨k, rfl, hk, hr⟩ := hrel
        have HR := Lib.hid hr
        have hbw := below_by HW.out hr.2 hB.out
        clear hr
        by_cases hlt : k < u.globs.length
        · obtain ⟨g, o, rfl, q0⟩ := str_at (H2.out.later hbw) k hlt
          have k0 : (0 : Int) ≤ (k : Int) := by omega
          have k1 : (k : Int) < u.globs.length := by omega
          have HLL : Hid (((u.globs.take k).length : Int) = (k : Int)) := Lib.hid (by rw [List.length_take]; omega)
          have HT : Hid (u.globs.take (k + 1) = u.globs.take k ++ [u.globs[k]]) := Lib.hid (List.take_succ_eq_append_getElem hlt)
          have HC := Lib.hid (impl_declare b (n + 8 + k) (mean4 L (u.recs.map Rc.name) (u.globs.take k) []) u.globs[k] 2 (k : Int) wr HR.out.1 (HU.out.2.1 _ (List.getElem_mem hlt)) (by unfold maxLen; omega))
          unfold DeclR at HC
          have HE := Lib.hid (fun s => (mean4_glob L (u.recs.map Rc.name) (u.globs.take k) u.globs[k] s))
          rw [HLL.out, ← HT.out] at HE
          clear hbw HT
          generalize u.globs[k] = x at q0 HC HE
          go_wp2_with fail
          refine HC.out.mono ?_
          rintro e w2 ⟨rfl, hm2, hg2⟩
          have HN2 : Hid (OutR w b (n + 8 + (k + 1)) (mean4 L (u.recs.map Rc.name) (u.globs.take (k + 1)) []) w2) := Lib.hid ⟨hm2.congr HE.out, grownr_trans HR.out.2 hg2⟩
          clear hm2 hg2 q0
          go_wp2
          go_roundw
          case rel => exact ⟨k + 1, by go_num, by omega, HN2.out⟩
          case measure => first | (simp [intOf]; done) | (simp [intOf]; omega)
        · obtain rfl : k = u.globs.length := by omega
          have HR2 : Hid (OutR w b (n + 20 + 0) (mean4 L (u.recs.map Rc.name) u.globs ((u.procs.map Pc.name).take 0)) wr) := by
            rw [List.take_length] at HR
            exact Lib.hid ⟨HR.out.1.mono (by omega), HR.out.2⟩
          have c3 := C3.out wr hbw
          clear HR hbw
          go_wp2
          go_loopw [8, 9, 46] (fun _ _ i wr => ∃ k : Nat, i = .int .i64 k ∧ k ≤ u.procs.length ∧ OutR w b (n + 20 + k) (mean4 L (u.recs.map Rc.name) u.globs ((u.procs.map Pc.name).take k)) wr) (fun _ _ i _ => u.procs.length - (intOf i).toNat)
          case atStart => exact ⟨0, rfl, Nat.zero_le _, HR2.out⟩
          case round =>
            clear HR2
            obtain ⟨k, rfl, hk, hr⟩ := hrel
            have HR := Lib.hid hr
            have hbw := below_by HW.out hr.2 hB.out
            clear hr
            by_cases hlt : k < u.procs.length
            · obtain ⟨g, o, rfl, q0, ⟨y5, q1, e5⟩, ⟨y6, q2, e6⟩, ⟨q3, q4, q5, q6⟩, ⟨y7, q7, e7⟩, q8⟩ := proc_at (H3.out.later hbw) k hlt
              obtain ⟨z5, f5, rfl⟩ := is_slice e5
              obtain ⟨z6, f6, rfl⟩ := is_slice e6
              obtain ⟨z7, f7, rfl⟩ := kids_len e7
              clear e5 e6 e7
              have k0 : (0 : Int) ≤ (k : Int) := by omega
              have k1 : (k : Int) < u.procs.length := by omega
              have HX := Lib.hid (HU.out.2.2.1 u.procs[k] (List.getElem_mem hlt))
              have HT := Lib.hid (take_map_name Pc.name u.procs k hlt)
              have n1 := bl1 wr (.cells #[.string u.procs[k].name, .slice z5 u.procs[k].params.length f5, .slice z6 u.procs[k].locals.length f6, .int .i64 u.procs[k].body.kind, .string u.procs[k].body.text, .int .i64 u.procs[k].body.num, .int .i64 u.procs[k].body.line, .slice z7 u.procs[k].body.kids.length f7, .int .i64 u.procs[k].line] 49)
              have HN1 := Lib.hid (grown_alloc wr (.cells #[.string u.procs[k].name, .slice z5 u.procs[k].params.length f5, .slice z6 u.procs[k].locals.length f6, .int .i64 u.procs[k].body.kind, .string u.procs[k].body.text, .int .i64 u.procs[k].body.num, .int .i64 u.procs[k].body.line, .slice z7 u.procs[k].body.kids.length f7, .int .i64 u.procs[k].line] 49) (some b))
              have HLL : Hid ((((u.procs.map Pc.name).take k).length : Int) = (k : Int)) := Lib.hid (by rw [List.length_take, List.length_map]; omega)
              have HC := Lib.hid (impl_declare b (n + 20 + k) (mean4 L (u.recs.map Rc.name) u.globs ((u.procs.map Pc.name).take k)) u.procs[k].name 3 (k : Int) _ (HR.out.1.later n1) HX.out (by unfold maxLen; omega))
              unfold DeclR at HC
              have HE := Lib.hid (fun s => (mean4_proc L (u.recs.map Rc.name) u.globs ((u.procs.map Pc.name).take k) u.procs[k].name s))
              rw [HLL.out, ← HT.out] at HE
              clear n1 hbw HT HX
              generalize u.procs[k] = x at q0 q1 q2 q3 q4 q5 q6 q7 q8 HN1 HC HE
              go_wp2_with fail
              refine HC.out.mono ?_
              rintro e w2 ⟨rfl, hm2, hg2⟩
              have HN2 : Hid (OutR w b (n + 20 + (k + 1)) (mean4 L (u.recs.map Rc.name) u.globs ((u.procs.map Pc.name).take (k + 1))) w2) := Lib.hid ⟨hm2.congr HE.out, grownr_trans HR.out.2 (grownr_trans HN1.out hg2)⟩
              clear hm2 hg2 q0 q1 q2 q3 q4 q5 q6 q7 q8
              go_wp2
              go_roundw
              case rel => exact ⟨k + 1, by go_num, by omega, HN2.out⟩
              case measure => first | (simp [intOf]; done) | (simp [intOf]; omega)
            · obtain rfl : k = u.procs.length := by omega
              have e : (u.procs.map Pc.name).take u.procs.length = u.procs.map Pc.name := by rw [List.take_of_length_le (by simp)]
              rw [e] at HR
              clear hbw
              go_wp2
              go_end0
              exact ⟨rfl, HR.out.1.mono (by omega), HR.out.2⟩
end Go.Proofs.YtckjmmapekaapaaGreatDoor
/- slices.Concat of two lists of names. No conditions. -/
namespace Go.Proofs.YtckjmmapekaapaaGreatDoor
open Go.RowKit
set_option linter.unusedVariables false

theorem under_int : Tryz.prog.underlying 3 = some (.int .i64) := Tryz.underlying3
set_option maxRecDepth 100000 in
set_option maxHeartbeats 1600000 in
theorem lib_grow (n : Nat) (hn : n ≤ 2097152) (w : World) : Calls Tryz.prog 94 #[.slice none 0 0, .int .i64 (n : Int)] w (RetN w []) := by
  unfold RetN
  by_cases h0 : n = 0
  · subst h0
    go_enter Tryz.func94, Tryz.ntmps94
    go_wp2
    go_ret
    exact ⟨_, rfl, own_none _ _, Below.refl _ _⟩
  · obtain ⟨i0, hi, hz0, hz1, hz2⟩ := info_parts info_string
    have hr := Lib.run_append_nil_zeros (P := Tryz.prog) w 23 3 23 9 i0 (.string ByteArray.empty) .i64 .i64 Tryz.underlying23 Tryz.underlying3 hi hz0 n (by omega) (by omega) (by omega) (by rw [hz2]; omega)
    have hcap := grownCap_ge w n 0 9
    have hcm := grownCap_le_maxLen w n 0 9 (by unfold maxLen; omega)
    have hrow : Owns (w.drew.alloc (.cells (Builtin.zeroCells (Value.string ByteArray.empty).cells n ++ Builtin.zeroCells (Value.string ByteArray.empty).cells (grownCap w n 0 9 - n)) 9)) w.heap.size (.slice (some ⟨w.heap.size, 0, none⟩) 0 (grownCap w n 0 9)) [] := by
      have h := World.ownsRow_made (base := w.heap.size) (size := 1) (e := 9) w.drew (Builtin.zeroCells (Value.string ByteArray.empty).cells n ++ Builtin.zeroCells (Value.string ByteArray.empty).cells (grownCap w n 0 9 - n)) (grownCap w n 0 9) (Nat.le_refl _) hcm (by
        have e1 : (Value.string ByteArray.empty).cells.size = 1 := rfl
        simp only [Array.size_append, size_zeroCells, e1]; omega)
      exact h
    have hb : Below w.heap.size w (w.drew.alloc (.cells (Builtin.zeroCells (Value.string ByteArray.empty).cells n ++ Builtin.zeroCells (Value.string ByteArray.empty).cells (grownCap w n 0 9 - n)) 9)) := (Below.refl w.heap.size w).drew.alloc (Nat.le_refl _) _
    generalize w.drew.alloc (.cells (Builtin.zeroCells (Value.string ByteArray.empty).cells n ++ Builtin.zeroCells (Value.string ByteArray.empty).cells (grownCap w n 0 9 - n)) 9) = w2 at hr hrow hb
    generalize grownCap w n 0 9 = cp at hr hrow hcap hcm
    have HR := Lib.hid hr
    have HO := Lib.hid hrow
    have HB := Lib.hid hb
    unfold maxLen at hcm
    clear hr hrow hb
    go_enter Tryz.func94, Tryz.ntmps94
    go_wp2_with (at_builtin; refine Lib.wpList_append_run _ rfl _ _ _ _ rfl _ _ rfl rfl _ _ HR.out ?_)
    go_ret
    exact ⟨_, rfl, HO.out, HB.out⟩
set_option maxRecDepth 100000 in
set_option maxHeartbeats 1600000 in
theorem lib_concat2 (l m : List ByteArray) (hl : l.length + m.length ≤ 1048576) (g : Nat) (v1 v2 : Value) (w : World) (h1 : Is w (strsD l) v1) (h2 : Is w (strsD m) v2) (c1 : w.cell? ⟨g, 0, none⟩ = some v1) (c2 : w.cell? ⟨g, 1, none⟩ = some v2) :
    Calls Tryz.prog 74 #[.slice (some ⟨g, 0, none⟩) 2 2] w (RetN w (l ++ m)) := by
  unfold RetN
  obtain ⟨a1, d1, rfl⟩ := is_slice h1
  obtain ⟨a2, d2, rfl⟩ := is_slice h2
  have HG := Lib.hid (lib_grow (l.length + m.length) (by omega) w)
  unfold RetN at HG
  rw [show ((l.length + m.length : Nat) : Int) = (l.length : Int) + (m.length : Int) by omega] at HG
  have H1 := Lib.hid h1
  have H2 := Lib.hid h2
  have C1 := Lib.hid (fun W (hW : Below w.heap.size w W) => subw_below hW _ _ _ c1)
  have C2 := Lib.hid (fun W (hW : Below w.heap.size w W) => subw_below hW _ _ _ c2)
  clear h1 h2
  go_enter Tryz.func74, Tryz.ntmps74
  go_wp2
  go_loop [3, 5, 11] (fun s _ i => (i = .int .i64 0 ∧ s = .int .i64 0) ∨ (i = .int .i64 1 ∧ s = .int .i64 (l.length : Int)) ∨ (i = .int .i64 2 ∧ s = .int .i64 ((l.length : Int) + (m.length : Int)))) (fun _ _ i => 2 - (intOf i).toNat)
  case atStart => exact .inl ⟨rfl, rfl⟩
  case round =>
    rcases hrel with ⟨rfl, rfl⟩ | ⟨rfl, rfl⟩ | ⟨rfl, rfl⟩
    · go_wp2
      go_round
      case rel => exact .inr (.inl ⟨rfl, by go_num⟩)
      case measure => simp [intOf]
    · go_wp2
      go_round
      case rel => exact .inr (.inr ⟨rfl, rfl⟩)
      case measure => simp [intOf]
    · clear c1 c2
      go_wp2_with fail
      refine HG.out.mono ?_
      rintro e w2 ⟨v2, rfl, o2, b2⟩
      have HO := Lib.hid o2
      have HB := Lib.hid b2
      clear o2 b2
      go_wp2
      go_loopw [6, 8, 27] (fun v _ i wr => Below w.heap.size w wr ∧ ((i = .int .i64 0 ∧ Owns wr w.heap.size v []) ∨ (i = .int .i64 1 ∧ Owns wr w.heap.size v l) ∨ (i = .int .i64 2 ∧ Owns wr w.heap.size v (l ++ m)))) (fun _ _ i _ => 2 - (intOf i).toNat)
      case atStart => exact ⟨HB.out, .inl ⟨rfl, HO.out⟩⟩
      case round =>
        clear HO HB
        obtain ⟨hb, hrel⟩ := hrel
        have HB := Lib.hid hb
        have c1 := C1.out wr hb
        have c2 := C2.out wr hb
        clear hb
        rcases hrel with ⟨rfl, ho⟩ | ⟨rfl, ho⟩ | ⟨rfl, ho⟩
        · have HO := Lib.hid ho
          clear ho
          go_wp2_with (at_builtin; refine wpList_append_more (B := w.heap.size) rfl _ _ rfl rfl rfl HO.out (H1.out.later HB.out) (by simp; omega) HB.out.size ?_; intro v5 w5 o5 g5 m5)
          have O5 := Lib.hid o5
          have B5 := Lib.hid (below_grown HB.out HO.out (Nat.le_refl _) g5)
          rw [List.nil_append] at O5
          clear o5 g5 m5 c1 c2
          go_roundw
          case rel => exact ⟨B5.out, .inr (.inl ⟨rfl, O5.out⟩)⟩
          case measure => simp [intOf]
        · have HO := Lib.hid ho
          clear ho
          go_wp2_with (at_builtin; refine wpList_append_more (B := w.heap.size) rfl _ _ rfl rfl rfl HO.out (H2.out.later HB.out) hl HB.out.size ?_; intro v5 w5 o5 g5 m5)
          have O5 := Lib.hid o5
          have B5 := Lib.hid (below_grown HB.out HO.out (Nat.le_refl _) g5)
          clear o5 g5 m5 c1 c2
          go_roundw
          case rel => exact ⟨B5.out, .inr (.inr ⟨rfl, O5.out⟩)⟩
          case measure => simp [intOf]
        · have HO := Lib.hid ho
          clear ho
          go_wp2
          go_ret
          exact ⟨_, rfl, HO.out, HB.out⟩
end Go.Proofs.YtckjmmapekaapaaGreatDoor
