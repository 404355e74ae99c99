/- Joined texts: U12, N32. No conditions besides those that each states. -/
import Derived.Deep.RegionHeld3
import Derived.Test.YtckjmmapekaapaaGreatDoorZ19
import Derived.Test.YtckjmmapekaapaaGreatDoorZ40
/- What the laws write into records, procedures and units. No conditions. -/
namespace Go.Proofs.YtckjmmapekaapaaGreatDoor
open Go.RowKit
set_option linter.unusedVariables false

/-- A row in which one element is being written: the cells before it, its own, those behind it. -/
def StD (w : World) (g o p : Nat) (Fs : List (List Nat)) (pre cells post : List D) (W : World) : Prop := pre.length = p ∧ RowD W g o (pre ++ cells ++ post) Fs ∧ OnlyF (g :: Fs.flatten) w W ∧ ∀ b ∈ g :: Fs.flatten, b < W.heap.size
theorem mid_get {pre cells post : List D} {p c : Nat} {d : D} (hp : pre.length = p) (hc : cells[c]? = some d) : (pre ++ cells ++ post)[p + c]? = some d := by
  have hlt : c < cells.length := (List.getElem?_eq_some_iff.1 hc).1
  rw [List.getElem?_append_left (by rw [List.length_append]; omega), List.getElem?_append_right (by omega), hp, show p + c - p = c by omega, hc]
theorem mid_set {pre cells post : List D} {p c : Nat} {d : D} (hp : pre.length = p) (hc : c < cells.length) : (pre ++ cells ++ post).set (p + c) d = pre ++ cells.set c d ++ post := by
  rw [List.set_append_left _ _ (by rw [List.length_append]; omega), List.set_append_right _ _ (by omega), hp, show p + c - p = c by omega]
theorem StD.later {w W W' : World} {g o p : Nat} {Fs : List (List Nat)} {pre cells post : List D} (h : StD w g o p Fs pre cells post W) (hb : Below W.heap.size W W') : StD w g o p Fs pre cells post W' := by
  obtain ⟨h1, h2, h3, h4⟩ := h
  exact ⟨h1, h2.keep (hb.block g (h4 g List.mem_cons_self)) (fun b hb2 => hb.block b (h4 b (List.mem_cons_of_mem _ hb2))), h3.later hb, fun b hb2 => Nat.lt_of_lt_of_le (h4 b hb2) hb.size⟩
theorem StD.get {w W : World} {g o p : Nat} {Fs : List (List Nat)} {pre cells post : List D} (h : StD w g o p Fs pre cells post W) (c : Nat) (d : D) (hc : cells[c]? = some d) : ∃ u G, Fs[p + c]? = some G ∧ W.cell? ⟨g, o + p + c, none⟩ = some u ∧ W.frozen? ⟨g, o + p + c, none⟩ = false ∧ Own W d u G := by
  obtain ⟨u, G, h1, h2, h3, h4⟩ := h.2.1.2.2 (p + c) d (mid_get h.1 hc)
  rw [← Nat.add_assoc] at h2 h3
  exact ⟨u, G, h1, h2, h3, h4⟩
theorem StD.num {w W : World} {g o p : Nat} {Fs : List (List Nat)} {pre cells post : List D} (h : StD w g o p Fs pre cells post W) (c : Nat) (d0 : D) (hc : cells[c]? = some d0) (hs : ∀ W v F, Own W d0 v F → F = []) (d : D) (u : Value) (hd : Own W d u []) : StD w g o p Fs pre (cells.set c d) post (W.setCell ⟨g, o + p + c, none⟩ u) := by
  obtain ⟨h1, h2, h3, h4⟩ := h
  have hm := mid_get (post := post) h1 hc
  obtain ⟨u0, G, hG, _, _, ho⟩ := h2.2.2 _ d0 hm
  obtain rfl := hs _ _ _ ho
  have h5 := h2.put (List.getElem?_eq_some_iff.1 hm).1 hd List.not_mem_nil (fun _ K _ _ => apart_nil K)
  have e : Fs.set (p + c) [] = Fs := by
    apply List.ext_getElem?
    intro i
    rw [List.getElem?_set]
    split
    · rename_i e; subst e; rw [hG, if_pos (List.getElem?_eq_some_iff.1 hG).1]
    · rfl
  rw [e, mid_set h1 (List.getElem?_eq_some_iff.1 hc).1, ← Nat.add_assoc] at h5
  exact ⟨h1, h5, h3.set List.mem_cons_self _ _, fun b hb => by rw [set_size]; exact h4 b hb⟩
theorem StD.sub {w W W' : World} {g o p : Nat} {Fs : List (List Nat)} {pre cells post : List D} {G : List Nat} (h : StD w g o p Fs pre cells post W) (c : Nat) {d : D} {u : Value} (hc : c < cells.length) (hG : Fs[p + c]? = some G) (hu : W.cell? ⟨g, o + p + c, none⟩ = some u) (ho : OnlyF G W W') (hd : Own W' d u G) : StD w g o p Fs pre (cells.set c d) post W' := by
  obtain ⟨h1, h2, h3, h4⟩ := h
  have h5 := h2.sub (j := p + c) (by simp only [List.length_append]; omega) (by rw [← Nat.add_assoc]; exact hu) hG ho h4 hd
  rw [mid_set h1 hc] at h5
  exact ⟨h1, h5, h3.trans ho (fun b hb => List.mem_cons_of_mem _ (mem_at hG hb)), fun b hb => Nat.lt_of_lt_of_le (h4 b hb) ho.1.size⟩
theorem StD.lt {w W : World} {g o p c : Nat} {Fs : List (List Nat)} {pre cells post : List D} {G : List Nat} (h : StD w g o p Fs pre cells post W) (hG : Fs[p + c]? = some G) : ∀ b ∈ G, b < W.heap.size := fun b hb => h.2.2.2 b (List.mem_cons_of_mem _ (mem_at hG hb))
theorem sc_int {n : Int} : ∀ W v F, Own W (.int n) v F → F = [] := fun W v F h => by rw [Own] at h; exact h.2
theorem sc_str {s : ByteArray} : ∀ W v F, Own W (.str s) v F → F = [] := fun W v F h => by rw [Own] at h; exact h.2
/-- Where the writing of a slice of structs stands: the first i are marked. -/
def MkD {α : Type} (f : α → List D) (mk : α → Nat → α) (wd : α → Nat) (w : World) (g o : Nat) (Fs : List (List Nat)) (l : List α) (k0 i : Nat) (wr : World) : Prop := RowD wr g o ((mks mk wd (l.take i) k0 ++ l.drop i).flatMap f) Fs ∧ OnlyF (g :: Fs.flatten) w wr ∧ ∀ b ∈ g :: Fs.flatten, b < wr.heap.size
theorem MkD.st {α : Type} {f : α → List D} {mk : α → Nat → α} {wd : α → Nat} {w wr : World} {g o k0 i z : Nat} {Fs : List (List Nat)} {l : List α} (h : MkD f mk wd w g o Fs l k0 i wr) (hz : ∀ x, (f x).length = z) (hi : i < l.length) : StD w g o (i * z) Fs ((mks mk wd (l.take i) k0).flatMap f) (f l[i]) ((l.drop (i + 1)).flatMap f) wr := by
  obtain ⟨h1, h2, h3⟩ := h
  refine ⟨by rw [flat_len f hz, mks_len, List.length_take, Nat.min_eq_left (by omega)], ?_, h2, h3⟩
  rw [List.flatMap_append, List.drop_eq_getElem_cons hi, List.flatMap_cons, ← List.append_assoc] at h1
  exact h1
theorem StD.mk {α : Type} {f : α → List D} {mk : α → Nat → α} {wd : α → Nat} {w W : World} {g o k0 i p : Nat} {Fs : List (List Nat)} {l : List α} {cells : List D} (hi : i < l.length) (h : StD w g o p Fs ((mks mk wd (l.take i) k0).flatMap f) cells ((l.drop (i + 1)).flatMap f) W) (hc : cells = f (mk l[i] (k0 + wsum wd (l.take i)))) : MkD f mk wd w g o Fs l k0 (i + 1) W := by
  obtain ⟨h1, h2, h3, h4⟩ := h
  refine ⟨?_, h3, h4⟩
  have e : ((mks mk wd (l.take (i + 1)) k0 ++ l.drop (i + 1)).flatMap f) = (mks mk wd (l.take i) k0).flatMap f ++ cells ++ (l.drop (i + 1)).flatMap f := by
    rw [List.take_succ_eq_append_getElem hi, mks_snoc, List.flatMap_append, List.flatMap_append, hc]
    simp
  rw [e]; exact h2
theorem MkD.done {α : Type} {f : α → List D} {mk : α → Nat → α} {wd : α → Nat} {w wr : World} {g o c k0 : Nat} {Fs : List (List Nat)} {l : List α} (h : MkD f mk wd w g o Fs l k0 l.length wr) {z : Nat} (hz : ∀ x, (f x).length = z) (hz0 : 0 < z) (h0 : l ≠ []) (hc : l.length ≤ c) : Own wr (.row (mks mk wd l k0).length ((mks mk wd l k0).flatMap f)) (.slice (some ⟨g, o, none⟩) l.length c) (g :: Fs.flatten) ∧ OnlyF (g :: Fs.flatten) w wr := by
  obtain ⟨h1, h2, _⟩ := h
  rw [List.take_length, List.drop_length, List.append_nil] at h1
  refine ⟨?_, h2⟩
  rw [mks_len]
  refine own_of_rowD h1 (fun e => ?_) hc
  have h3 := congrArg List.length e
  rw [flat_len f hz, mks_len] at h3
  have h4 := List.length_pos_iff.2 h0
  have h5 : 0 < l.length * z := Nat.mul_pos h4 hz0
  simp only [List.length_nil] at h3
  omega
theorem markN {m : Nat} {w : World} {i : Int} (hi : i = (m : Int)) (h0 : 0 < m) (h1 : (m : Int) ≤ 100000000) : Calls Tryz.prog 31 #[.int .i64 i] w fun e w' => e = .returned (.string (mark m)) ∧ Below w.heap.size w w' := by
  subst hi; exact mark_k m w h0 h1
theorem markSN {v : Value} {l : List ByteArray} {F : List Nat} {m m2 : Nat} {w : World} {i : Int} (hi : i = (m : Int)) (ho : Own w (strsD l) v F) (hF : ∀ b ∈ F, b < w.heap.size) (h0 : 0 < m) (hm : m + l.length = m2) (h1 : (m2 : Int) ≤ 8000000) : Calls Tryz.prog 12 #[v, .int .i64 i] w fun e w' => e = .returned (.int .i64 (m2 : Int)) ∧ Own w' (strsD (marks m l.length)) v F ∧ OnlyF F w w' := by
  subst hi hm; exact mark_strsD v l F m w ho hF h0 h1
theorem markEN {v : Value} {t : Ex.T} {F : List Nat} {m m2 : Nat} {w : World} {i : Int} (hi : i = (m : Int)) (hb : t.bulk ≤ 1048576) (ho : Own w (.ex t.kids) v F) (hF : ∀ b ∈ F, b < w.heap.size) (hm : m + 4 * Ex.counts t.kids = m2) (h1 : (m2 : Int) ≤ 8000000) : Calls Tryz.prog 56 #[v, .int .i64 i] w fun e w' => e = .returned (.int .i64 (m2 : Int)) ∧ Own w' (.ex (Ex.mrks t.kids m)) v F ∧ OnlyF F w w' := by
  subst hi hm
  have hbe := bulk_eq t
  refine (mark_all _ t.kids (Nat.le_refl _) (fun x hx => by have := Ex.bulks_mem hx; omega) w v F m (ex_own ho) hF h1 (by omega)).mono ?_
  rintro e w' ⟨rfl, h2, h3⟩
  exact ⟨rfl, own_ex h2, h3⟩

theorem mark_nil_rec (k0 : Nat) (w : World) (a : Option Addr) (c : Nat) : Calls Tryz.prog 29 #[.slice a 0 c, .int .i64 (k0 : Int)] w fun e w' => e = .returned (.int .i64 (k0 : Int)) ∧ w = w' := by
  go_enter Tryz.func29, Tryz.ntmps29
  go_wp2
  go_loopw [1, 5] (fun m i wr => m = .int .i64 k0 ∧ i = .int .i64 0 ∧ w = wr) (fun _ _ _ => 0)
  case atStart => exact ⟨rfl, rfl, rfl⟩
  case round =>
    obtain ⟨rfl, rfl, rfl⟩ := hrel
    go_wp2
    go_ret
    exact ⟨rfl, rfl⟩
set_option maxRecDepth 100000 in
set_option maxHeartbeats 6400000 in
theorem mark_recs (l : List Rc) (hb : ∀ x ∈ l, x.bulk ≤ 1048576) (v : Value) (F : List Nat) (k0 : Nat) (w : World) (ho : Own w (.row l.length (l.flatMap Rc.ds)) v F) (hF : ∀ b ∈ F, b < w.heap.size) (hk0 : 0 < k0) (hk1 : ((k0 + wsum Rc.wd l : Nat) : Int) ≤ 8000000) (hln : l.length ≤ 1048576) :
    Calls Tryz.prog 29 #[v, .int .i64 (k0 : Int)] w fun e w' => e = .returned (.int .i64 ((k0 + wsum Rc.wd l : Nat) : Int)) ∧ Own w' (.row (mks Rc.mk' Rc.wd l k0).length ((mks Rc.mk' Rc.wd l k0).flatMap Rc.ds)) v F ∧ OnlyF F w w' := by
  by_cases h0 : l = []
  · subst h0
    obtain ⟨a, c, rfl⟩ := own_slice ho
    refine (mark_nil_rec k0 w a c).mono ?_
    rintro e w' ⟨rfl, rfl⟩
    exact ⟨rfl, ho, OnlyF.refl _ _⟩
  have hfm : l.flatMap Rc.ds ≠ [] := fun e => by
    have h3 := congrArg List.length e
    rw [flat_len Rc.ds Rc.ds_len] at h3
    have h4 := List.length_pos_iff.2 h0
    simp only [List.length_nil] at h3
    omega
  obtain ⟨g, o, c, Fs, rfl, rfl, hr⟩ := rowD_of_own ho hfm
  have HCP := Lib.hid (own_cap ho hfm)
  have HST : Hid (MkD Rc.ds Rc.mk' Rc.wd w g o Fs l k0 0 w) := Lib.hid ⟨by rw [List.take_zero, mks, List.drop_zero]; exact hr, OnlyF.refl _ _, hF⟩
  have HI := Lib.hid hb
  have HK1 := Lib.hid hk1
  have H0 := Lib.hid h0
  clear ho hr hF hb hfm h0 hk1
  go_enter Tryz.func29, Tryz.ntmps29
  go_wp2
  go_loopw [1, 5] (fun m i wr => ∃ j n : Nat, m = .int .i64 n ∧ i = .int .i64 j ∧ j ≤ l.length ∧ n = k0 + wsum Rc.wd (l.take j) ∧ MkD Rc.ds Rc.mk' Rc.wd w g o Fs l k0 j wr) (fun _ i _ => l.length - (intOf i).toNat)
  case atStart => exact ⟨0, k0, rfl, rfl, Nat.zero_le _, by simp [wsum], HST.out⟩
  case round =>
    clear HST
    obtain ⟨j, n, rfl, rfl, hj, hn, hat⟩ := hrel
    by_cases hlt : j < l.length
    · have hwt := wsum_take Rc.wd l j hlt
      have hwl := wsum_take_le Rc.wd l (j + 1)
      have hk1 := HK1.out
      have hxb := HI.out l[j] (List.getElem_mem hlt)
      have HNX := Lib.hid (fun W2 cells h hc => StD.mk (f := Rc.ds) (mk := Rc.mk') (wd := Rc.wd) (w := w) (W := W2) (g := g) (o := o) (k0 := k0) (Fs := Fs) (p := j * 3) (cells := cells) hlt h hc)
      rw [← hn] at HNX
      have S0 := Lib.hid (hat.st (z := 3) Rc.ds_len hlt)
      have HWT := Lib.hid hwt
      have HN := Lib.hid hn
      have hnw : ((n + Rc.wd l[j] : Nat) : Int) ≤ 8000000 := by omega
      have k0' : (0 : Int) ≤ j := by omega
      have k1' : (j : Int) < l.length := by omega
      have hn0 : 0 < n := by omega
      clear hat hwt hwl hk1 hn
      obtain ⟨pre, hpre⟩ : ∃ pre, (mks Rc.mk' Rc.wd (l.take j) k0).flatMap Rc.ds = pre := ⟨_, rfl⟩
      obtain ⟨post, hpost⟩ : ∃ post, (l.drop (j + 1)).flatMap Rc.ds = post := ⟨_, rfl⟩
      rw [hpre, hpost] at HNX S0
      clear hpre hpost
      generalize l[j] = x at HNX HWT hnw hxb S0
      have HXB := Lib.hid hxb
      unfold Rc.bulk at hxb
      have hnw2 := hnw
      unfold Rc.wd at hnw2
      obtain ⟨m2, hm2⟩ : ∃ m2, n + 1 + x.fields.length = m2 := ⟨_, rfl⟩
      have hm2b : (m2 : Int) + 1 ≤ 8000000 := by omega
      go_wp2_with fail
      refine (markN (m := n) rfl (by omega) (by omega)).mono ?_
      rintro e w1 ⟨rfl, b1⟩
      have T1 := Lib.hid (S0.out.later b1)
      clear b1
      have a0 : (∃ u, w1.cell? ⟨g, o + j * 3, none⟩ = some u) ∧ w1.frozen? ⟨g, o + j * 3, none⟩ = false := by obtain ⟨u, G, _, q1, q2, _⟩ := T1.out.get 0 _ rfl; exact ⟨⟨u, q1⟩, q2⟩
      obtain ⟨⟨y0, c0⟩, f0⟩ := a0
      obtain ⟨y1, G1, hG1, c1, _, o1⟩ := T1.out.get 1 _ rfl
      obtain ⟨za1, zc1, rfl⟩ := own_slice o1
      have HG1 := Lib.hid hG1
      clear hG1 o1
      have U0 := Lib.hid (T1.out.num 0 _ rfl sc_str (.str (mark n)) (.string (mark n)) own_str')
      go_wp2_with fail
      have ow2 := (U0.out.get 1 _ rfl)
      obtain ⟨yy, GG, hGG, cc, _, oo⟩ := ow2
      obtain rfl : GG = G1 := Option.some.inj (hGG.symm.trans HG1.out)
      obtain rfl : yy = .slice za1 x.fields.length zc1 := by have e1 := cc; (repeat (rw [set_oth] at e1; rotate_left; · omega)); exact Option.some.inj (e1.symm.trans c1)
      refine (markSN (m := n + 1) (m2 := m2) (by omega) oo (U0.out.lt hGG) (by omega) hm2 (by omega)).mono ?_
      rintro e w2 ⟨rfl, ob, of⟩
      have T2 := Lib.hid (U0.out.sub 1 (by simp only [List.length_set]; show 1 < 3; decide) hGG cc of ob)
      clear hGG cc oo ob of
      clear c0 f0 c1
      have a2 : (∃ u, w2.cell? ⟨g, o + j * 3 + 2, none⟩ = some u) ∧ w2.frozen? ⟨g, o + j * 3 + 2, none⟩ = false := by obtain ⟨u, G, _, q1, q2, _⟩ := T2.out.get 2 _ rfl; exact ⟨⟨u, q1⟩, q2⟩
      obtain ⟨⟨y2, c2⟩, f2⟩ := a2
      have U2 := Lib.hid (T2.out.num 2 _ rfl sc_int (.int (m2 : Int)) (.int .i64 (m2 : Int)) own_int')
      have HNN := Lib.hid (HNX.out _ _ U2.out (by subst hm2; rfl))
      go_wp2
      go_roundw
      case rel => exact ⟨j + 1, m2 + 1, by go_num, by go_num, by omega, by rw [HWT.out, ← Nat.add_assoc, ← HN.out]; unfold Rc.wd; omega, HNN.out⟩
      case measure => first | (simp [intOf]; done) | (simp [intOf]; omega)
    · obtain rfl : j = l.length := by omega
      obtain ⟨hD1, hD2⟩ := hat.done (c := c) Rc.ds_len (by decide) H0.out HCP.out
      have HD1 := Lib.hid hD1
      have HD2 := Lib.hid hD2
      have HN : Hid (n = k0 + wsum Rc.wd l) := Lib.hid (by rw [hn, List.take_length])
      clear hD1 hD2 hn hat
      go_wp2
      go_ret
      exact ⟨by rw [← HN.out]; rfl, HD1.out, HD2.out⟩
theorem mark_nil_proc (k0 : Nat) (w : World) (a : Option Addr) (c : Nat) : Calls Tryz.prog 30 #[.slice a 0 c, .int .i64 (k0 : Int)] w fun e w' => e = .returned (.int .i64 (k0 : Int)) ∧ w = w' := by
  go_enter Tryz.func30, Tryz.ntmps30
  go_wp2
  go_loopw [1, 5] (fun m i wr => m = .int .i64 k0 ∧ i = .int .i64 0 ∧ w = wr) (fun _ _ _ => 0)
  case atStart => exact ⟨rfl, rfl, rfl⟩
  case round =>
    obtain ⟨rfl, rfl, rfl⟩ := hrel
    go_wp2
    go_ret
    exact ⟨rfl, rfl⟩
set_option maxRecDepth 100000 in
set_option maxHeartbeats 6400000 in
theorem mark_procs (l : List Pc) (hb : ∀ x ∈ l, x.bulk ≤ 1048576) (v : Value) (F : List Nat) (k0 : Nat) (w : World) (ho : Own w (.row l.length (l.flatMap Pc.ds)) v F) (hF : ∀ b ∈ F, b < w.heap.size) (hk0 : 0 < k0) (hk1 : ((k0 + wsum Pc.wd l : Nat) : Int) ≤ 8000000) (hln : l.length ≤ 1048576) :
    Calls Tryz.prog 30 #[v, .int .i64 (k0 : Int)] w fun e w' => e = .returned (.int .i64 ((k0 + wsum Pc.wd l : Nat) : Int)) ∧ Own w' (.row (mks Pc.mk' Pc.wd l k0).length ((mks Pc.mk' Pc.wd l k0).flatMap Pc.ds)) v F ∧ OnlyF F w w' := by
  by_cases h0 : l = []
  · subst h0
    obtain ⟨a, c, rfl⟩ := own_slice ho
    refine (mark_nil_proc k0 w a c).mono ?_
    rintro e w' ⟨rfl, rfl⟩
    exact ⟨rfl, ho, OnlyF.refl _ _⟩
  have hfm : l.flatMap Pc.ds ≠ [] := fun e => by
    have h3 := congrArg List.length e
    rw [flat_len Pc.ds Pc.ds_len] at h3
    have h4 := List.length_pos_iff.2 h0
    simp only [List.length_nil] at h3
    omega
  obtain ⟨g, o, c, Fs, rfl, rfl, hr⟩ := rowD_of_own ho hfm
  have HCP := Lib.hid (own_cap ho hfm)
  have HST : Hid (MkD Pc.ds Pc.mk' Pc.wd w g o Fs l k0 0 w) := Lib.hid ⟨by rw [List.take_zero, mks, List.drop_zero]; exact hr, OnlyF.refl _ _, hF⟩
  have HI := Lib.hid hb
  have HK1 := Lib.hid hk1
  have H0 := Lib.hid h0
  clear ho hr hF hb hfm h0 hk1
  go_enter Tryz.func30, Tryz.ntmps30
  go_wp2
  go_loopw [1, 5] (fun m i wr => ∃ j n : Nat, m = .int .i64 n ∧ i = .int .i64 j ∧ j ≤ l.length ∧ n = k0 + wsum Pc.wd (l.take j) ∧ MkD Pc.ds Pc.mk' Pc.wd w g o Fs l k0 j wr) (fun _ i _ => l.length - (intOf i).toNat)
  case atStart => exact ⟨0, k0, rfl, rfl, Nat.zero_le _, by simp [wsum], HST.out⟩
  case round =>
    clear HST
    obtain ⟨j, n, rfl, rfl, hj, hn, hat⟩ := hrel
    by_cases hlt : j < l.length
    · have hwt := wsum_take Pc.wd l j hlt
      have hwl := wsum_take_le Pc.wd l (j + 1)
      have hk1 := HK1.out
      have hxb := HI.out l[j] (List.getElem_mem hlt)
      have HNX := Lib.hid (fun W2 cells h hc => StD.mk (f := Pc.ds) (mk := Pc.mk') (wd := Pc.wd) (w := w) (W := W2) (g := g) (o := o) (k0 := k0) (Fs := Fs) (p := j * 9) (cells := cells) hlt h hc)
      rw [← hn] at HNX
      have S0 := Lib.hid (hat.st (z := 9) Pc.ds_len hlt)
      have HWT := Lib.hid hwt
      have HN := Lib.hid hn
      have hnw : ((n + Pc.wd l[j] : Nat) : Int) ≤ 8000000 := by omega
      have k0' : (0 : Int) ≤ j := by omega
      have k1' : (j : Int) < l.length := by omega
      have hn0 : 0 < n := by omega
      clear hat hwt hwl hk1 hn
      obtain ⟨pre, hpre⟩ : ∃ pre, (mks Pc.mk' Pc.wd (l.take j) k0).flatMap Pc.ds = pre := ⟨_, rfl⟩
      obtain ⟨post, hpost⟩ : ∃ post, (l.drop (j + 1)).flatMap Pc.ds = post := ⟨_, rfl⟩
      rw [hpre, hpost] at HNX S0
      clear hpre hpost
      generalize l[j] = x at HNX HWT hnw hxb S0
      have HXB := Lib.hid hxb
      unfold Pc.bulk at hxb
      have hnw2 := hnw
      unfold Pc.wd at hnw2
      obtain ⟨m2, hm2⟩ : ∃ m2, n + 1 + x.params.length = m2 := ⟨_, rfl⟩
      obtain ⟨m3, hm3⟩ : ∃ m3, m2 + x.locals.length = m3 := ⟨_, rfl⟩
      obtain ⟨m8, hm8⟩ : ∃ m8, m3 + 4 + 4 * Ex.counts x.body.kids = m8 := ⟨_, rfl⟩
      have hm8b : (m8 : Int) + 1 ≤ 8000000 := by omega
      go_wp2_with fail
      refine (markN (m := n) rfl (by omega) (by omega)).mono ?_
      rintro e w1 ⟨rfl, b1⟩
      have T1 := Lib.hid (S0.out.later b1)
      clear b1
      have a0 : (∃ u, w1.cell? ⟨g, o + j * 9, none⟩ = some u) ∧ w1.frozen? ⟨g, o + j * 9, none⟩ = false := by obtain ⟨u, G, _, q1, q2, _⟩ := T1.out.get 0 _ rfl; exact ⟨⟨u, q1⟩, q2⟩
      obtain ⟨⟨y0, c0⟩, f0⟩ := a0
      obtain ⟨y1, G1, hG1, c1, _, o1⟩ := T1.out.get 1 _ rfl
      obtain ⟨za1, zc1, rfl⟩ := own_slice o1
      have HG1 := Lib.hid hG1
      clear hG1 o1
      have U0 := Lib.hid (T1.out.num 0 _ rfl sc_str (.str (mark n)) (.string (mark n)) own_str')
      go_wp2_with fail
      have ow2 := (U0.out.get 1 _ rfl)
      obtain ⟨yy, GG, hGG, cc, _, oo⟩ := ow2
      obtain rfl : GG = G1 := Option.some.inj (hGG.symm.trans HG1.out)
      obtain rfl : yy = .slice za1 x.params.length zc1 := by have e1 := cc; (repeat (rw [set_oth] at e1; rotate_left; · omega)); exact Option.some.inj (e1.symm.trans c1)
      refine (markSN (m := n + 1) (m2 := m2) (by omega) oo (U0.out.lt hGG) (by omega) hm2 (by omega)).mono ?_
      rintro e w2 ⟨rfl, ob, of⟩
      have T2 := Lib.hid (U0.out.sub 1 (by simp only [List.length_set]; show 1 < 9; decide) hGG cc of ob)
      clear hGG cc oo ob of
      clear c0 f0 c1
      obtain ⟨y2, G2, hG2, c2, _, o2⟩ := T2.out.get 2 _ rfl
      obtain ⟨za2, zc2, rfl⟩ := own_slice o2
      have HG2 := Lib.hid hG2
      clear hG2 o2
      go_wp2_with fail
      have ow3 := (T2.out.get 2 _ rfl)
      obtain ⟨yy, GG, hGG, cc, _, oo⟩ := ow3
      obtain rfl : GG = G2 := Option.some.inj (hGG.symm.trans HG2.out)
      obtain rfl : yy = .slice za2 x.locals.length zc2 := by have e1 := cc; (repeat (rw [set_oth] at e1; rotate_left; · omega)); exact Option.some.inj (e1.symm.trans c2)
      refine (markSN (m := m2) (m2 := m3) rfl oo (T2.out.lt hGG) (by omega) hm3 (by omega)).mono ?_
      rintro e w3 ⟨rfl, ob, of⟩
      have T3 := Lib.hid (T2.out.sub 2 (by simp only [List.length_set]; show 2 < 9; decide) hGG cc of ob)
      clear hGG cc oo ob of
      clear c2
      have a3 : (∃ u, w3.cell? ⟨g, o + j * 9 + 3, none⟩ = some u) ∧ w3.frozen? ⟨g, o + j * 9 + 3, none⟩ = false := by obtain ⟨u, G, _, q1, q2, _⟩ := T3.out.get 3 _ rfl; exact ⟨⟨u, q1⟩, q2⟩
      obtain ⟨⟨y3, c3⟩, f3⟩ := a3
      have U3 := Lib.hid (T3.out.num 3 _ rfl sc_int (.int (m3 : Int)) (.int .i64 (m3 : Int)) own_int')
      go_wp2_with fail
      refine (markN (m := m3 + 1) (by omega) (by omega) (by omega)).mono ?_
      rintro e w4 ⟨rfl, b4⟩
      have T4 := Lib.hid (U3.out.later b4)
      clear b4
      clear c3 f3
      have a4 : (∃ u, w4.cell? ⟨g, o + j * 9 + 4, none⟩ = some u) ∧ w4.frozen? ⟨g, o + j * 9 + 4, none⟩ = false := by obtain ⟨u, G, _, q1, q2, _⟩ := T4.out.get 4 _ rfl; exact ⟨⟨u, q1⟩, q2⟩
      obtain ⟨⟨y4, c4⟩, f4⟩ := a4
      have a5 : (∃ u, w4.cell? ⟨g, o + j * 9 + 5, none⟩ = some u) ∧ w4.frozen? ⟨g, o + j * 9 + 5, none⟩ = false := by obtain ⟨u, G, _, q1, q2, _⟩ := T4.out.get 5 _ rfl; exact ⟨⟨u, q1⟩, q2⟩
      obtain ⟨⟨y5, c5⟩, f5⟩ := a5
      have a6 : (∃ u, w4.cell? ⟨g, o + j * 9 + 6, none⟩ = some u) ∧ w4.frozen? ⟨g, o + j * 9 + 6, none⟩ = false := by obtain ⟨u, G, _, q1, q2, _⟩ := T4.out.get 6 _ rfl; exact ⟨⟨u, q1⟩, q2⟩
      obtain ⟨⟨y6, c6⟩, f6⟩ := a6
      obtain ⟨y7, G7, hG7, c7, _, o7⟩ := T4.out.get 7 _ rfl
      obtain ⟨za7, zc7, rfl⟩ := kids_len (is_ex o7.is)
      have HG7 := Lib.hid hG7
      clear hG7 o7
      have U4 := Lib.hid (T4.out.num 4 _ rfl sc_str (.str (mark (m3 + 1))) (.string (mark (m3 + 1))) own_str')
      have U5 := Lib.hid (U4.out.num 5 _ rfl sc_int (.int ((m3 : Int) + 1 + 1)) (.int .i64 ((m3 : Int) + 1 + 1)) own_int')
      have U6 := Lib.hid (U5.out.num 6 _ rfl sc_int (.int ((m3 : Int) + 1 + 1 + 1)) (.int .i64 ((m3 : Int) + 1 + 1 + 1)) own_int')
      go_wp2_with fail
      have ow5 := (U6.out.get 7 _ rfl)
      obtain ⟨yy, GG, hGG, cc, _, oo⟩ := ow5
      obtain rfl : GG = G7 := Option.some.inj (hGG.symm.trans HG7.out)
      obtain rfl : yy = .slice za7 x.body.kids.length zc7 := by have e1 := cc; (repeat (rw [set_oth] at e1; rotate_left; · omega)); exact Option.some.inj (e1.symm.trans c7)
      refine (markEN (m := m3 + 4) (m2 := m8) (by omega) (by omega) oo (U6.out.lt hGG) hm8 (by omega)).mono ?_
      rintro e w5 ⟨rfl, ob, of⟩
      have T5 := Lib.hid (U6.out.sub 7 (by simp only [List.length_set]; show 7 < 9; decide) hGG cc of ob)
      clear hGG cc oo ob of
      clear c4 f4 c5 f5 c6 f6 c7
      have a8 : (∃ u, w5.cell? ⟨g, o + j * 9 + 8, none⟩ = some u) ∧ w5.frozen? ⟨g, o + j * 9 + 8, none⟩ = false := by obtain ⟨u, G, _, q1, q2, _⟩ := T5.out.get 8 _ rfl; exact ⟨⟨u, q1⟩, q2⟩
      obtain ⟨⟨y8, c8⟩, f8⟩ := a8
      have U8 := Lib.hid (T5.out.num 8 _ rfl sc_int (.int (m8 : Int)) (.int .i64 (m8 : Int)) own_int')
      have HNN := Lib.hid (HNX.out _ _ U8.out (by subst hm2 hm3 hm8; rfl))
      go_wp2
      go_roundw
      case rel => exact ⟨j + 1, m8 + 1, by go_num, by go_num, by omega, by rw [HWT.out, ← Nat.add_assoc, ← HN.out]; unfold Pc.wd; omega, HNN.out⟩
      case measure => first | (simp [intOf]; done) | (simp [intOf]; omega)
    · obtain rfl : j = l.length := by omega
      obtain ⟨hD1, hD2⟩ := hat.done (c := c) Pc.ds_len (by decide) H0.out HCP.out
      have HD1 := Lib.hid hD1
      have HD2 := Lib.hid hD2
      have HN : Hid (n = k0 + wsum Pc.wd l) := Lib.hid (by rw [hn, List.take_length])
      clear hD1 hD2 hn hat
      go_wp2
      go_ret
      exact ⟨by rw [← HN.out]; rfl, HD1.out, HD2.out⟩
end Go.Proofs.YtckjmmapekaapaaGreatDoor
/- What the laws read again of a list of trees. No conditions. -/
namespace Go.Proofs.YtckjmmapekaapaaGreatDoor
open Go.RowKit
set_option linter.unusedVariables false

end Go.Proofs.YtckjmmapekaapaaGreatDoor
