/- Joined texts: R11, R3, W6, W8, K12, K13. No conditions besides those that each states. -/
import Derived.Deep.QuietTactic
import Derived.BigQuiet
import Derived.StillTailTactics
import Derived.IntWalk
import Derived.OneCell
import Derived.Deep.RegionHeld3
import Derived.Test.YtfhakailbikjkaaGreatDoorZ2
import Derived.Test.YtfhakailbikjkaaGreatDoorZ5
import Derived.Test.YtfhakailbikjkaaGreatDoorZ8
import Derived.Test.YtfhakailbikjkaaGreatDoorZ10
/- The program's scanner of tokens: what it keeps. No conditions. -/
namespace Go.Proofs.YtfhakailbikjkaaGreatDoor
open Go.RowKit
set_option linter.unusedVariables false

/-- What the scanner keeps: the source, the place, the line, in three blocks from h on. -/
def Scan (w : World) (h : Nat) (s : ByteArray) (k line : Nat) : Prop := w.heap[h]? = some (.cells #[.string s] 9 (0, 0)) ∧ w.heap[h + 1]? = some (.cells #[.int .i64 (k : Int)] 3 (0, 0)) ∧ w.heap[h + 2]? = some (.cells #[.int .i64 (line : Int)] 3 (0, 0))
theorem Scan.lt {w : World} {h k line : Nat} {s : ByteArray} (x : Scan w h s k line) : h + 2 < w.heap.size := lt_of_block x.2.2
theorem Scan.later {w w1 : World} {h k line : Nat} {s : ByteArray} (x : Scan w h s k line) (hb : Below w.heap.size w w1) : Scan w1 h s k line := by
  have hl := x.lt
  exact ⟨by rw [hb.block h (by omega)]; exact x.1, by rw [hb.block (h + 1) (by omega)]; exact x.2.1, by rw [hb.block (h + 2) (by omega)]; exact x.2.2⟩
theorem Scan.cells {w : World} {h k line : Nat} {s : ByteArray} (x : Scan w h s k line) : w.cell? ⟨h, 0, none⟩ = some (.string s) ∧ w.cell? ⟨h + 1, 0, none⟩ = some (.int .i64 (k : Int)) ∧ w.frozen? ⟨h + 1, 0, none⟩ = false ∧ w.cell? ⟨h + 2, 0, none⟩ = some (.int .i64 (line : Int)) ∧ w.frozen? ⟨h + 2, 0, none⟩ = false :=
  ⟨cell_of_one x.1, cell_of_one x.2.1, free_of_one x.2.1, cell_of_one x.2.2, free_of_one x.2.2⟩
theorem Scan.set1 {w : World} {h k line : Nat} {s : ByteArray} (x : Scan w h s k line) (k2 : Nat) (v : Value) (hv : v = .int .i64 (k2 : Int)) : Scan (w.setCell ⟨h + 1, 0, none⟩ v) h s k2 line := by
  subst hv
  exact ⟨by rw [Below.heap_setCell _ _ _ _ (show h ≠ h + 1 by omega)]; exact x.1, one_setCell x.2.1, by rw [Below.heap_setCell _ _ _ _ (show h + 2 ≠ h + 1 by omega)]; exact x.2.2⟩
theorem Scan.set2 {w : World} {h k line : Nat} {s : ByteArray} (x : Scan w h s k line) (n : Nat) (v : Value) (hv : v = .int .i64 (n : Int)) : Scan (w.setCell ⟨h + 2, 0, none⟩ v) h s k n := by
  subst hv
  exact ⟨by rw [Below.heap_setCell _ _ _ _ (show h ≠ h + 2 by omega)]; exact x.1, by rw [Below.heap_setCell _ _ _ _ (show h + 1 ≠ h + 2 by omega)]; exact x.2.1, one_setCell x.2.2⟩
theorem Scan.set3 {w : World} {h k line b : Nat} {s : ByteArray} (x : Scan w h s k line) (hb : h + 3 ≤ b) (o : Nat) (v : Value) : Scan (w.setCell ⟨b, o, none⟩ v) h s k line :=
  ⟨by rw [Below.heap_setCell _ _ _ _ (show h ≠ b by omega)]; exact x.1, by rw [Below.heap_setCell _ _ _ _ (show h + 1 ≠ b by omega)]; exact x.2.1, by rw [Below.heap_setCell _ _ _ _ (show h + 2 ≠ b by omega)]; exact x.2.2⟩
theorem Scan.drewN {w : World} {h k line : Nat} {s : ByteArray} (x : Scan w h s k line) (n : Nat) : Scan (w.drewN n) h s k line := by
  induction n with
  | zero => exact x
  | succ n ih => exact ih
theorem Scan.drew {w : World} {h k line : Nat} {s : ByteArray} (x : Scan w h s k line) : Scan w.drew h s k line := x
/-- Nothing is turned but what the scanner keeps, and what is new. -/
def Past (h : Nat) (w w' : World) : Prop := Below h w w' ∧ ∀ b, h + 3 ≤ b → b < w.heap.size → w'.heap[b]? = w.heap[b]?
theorem Past.refl (h : Nat) (w : World) : Past h w w := ⟨Below.refl _ _, fun _ _ _ => rfl⟩
theorem Past.later {h : Nat} {w w1 w2 : World} (x : Past h w w1) (hb : Below w1.heap.size w1 w2) (hh : h ≤ w1.heap.size) : Past h w w2 :=
  ⟨x.1.trans (hb.mono hh), fun b h1 h2 => by have := x.1.size; rw [hb.block b (by omega)]; exact x.2 b h1 h2⟩
theorem Past.set {h : Nat} {w w1 : World} (x : Past h w w1) (b o : Nat) (v : Value) (hb : (h ≤ b ∧ b < h + 3) ∨ (h ≤ b ∧ w.heap.size ≤ b)) : Past h w (w1.setCell ⟨b, o, none⟩ v) :=
  ⟨x.1.setCell (p := ⟨b, o, none⟩) (by rcases hb with h | h <;> exact h.1) v, fun c h1 h2 => by rw [Below.heap_setCell _ _ _ _ (show c ≠ b by omega)]; exact x.2 c h1 h2⟩
theorem Past.drewN {h : Nat} {w w1 : World} (x : Past h w w1) (n : Nat) : Past h w (w1.drewN n) := by
  induction n with
  | zero => exact x
  | succ n ih => exact ⟨ih.1.drew, ih.2⟩
theorem Past.trans {h : Nat} {w w1 w2 : World} (x : Past h w w1) (y : Past h w1 w2) : Past h w w2 :=
  ⟨x.1.trans y.1, fun b h1 h2 => by have := x.1.size; rw [y.2 b h1 (by omega)]; exact x.2 b h1 h2⟩

theorem scan_start (w : World) (s : ByteArray) : Scan (((w.alloc (.cells #[.string s] 9)).alloc (.cells #[.int .i64 0] 3)).alloc (.cells #[.int .i64 1] 3)) w.heap.size s 0 1 := by
  have e : ∀ (W : World) (o : Obj), (W.alloc o).heap[W.heap.size]? = some o := fun W o => by show (W.heap.push o)[W.heap.size]? = some o; simp
  have z : ∀ (W : World) (o : Obj), (W.alloc o).heap.size = W.heap.size + 1 := fun W o => by show (W.heap.push o).size = _; simp
  have e1 := e w (.cells #[.string s] 9)
  have e2 := e (w.alloc (.cells #[.string s] 9)) (.cells #[.int .i64 0] 3)
  have e3 := e ((w.alloc (.cells #[.string s] 9)).alloc (.cells #[.int .i64 0] 3)) (.cells #[.int .i64 1] 3)
  rw [z] at e2
  rw [z, z] at e3
  refine ⟨?_, ?_, e3⟩
  · rw [Below.heap_alloc _ _ _ (by rw [z, z]; omega), Below.heap_alloc _ _ _ (by rw [z]; omega)]; exact e1
  · rw [Below.heap_alloc _ _ _ (by rw [z, z]; omega)]; exact e2
theorem scanner_new (s : ByteArray) (w : World) : Calls Tryz.prog 16 #[.string s] w fun e w' => e = .returned (.func (.func 32) #[] #[.pointer (some ⟨w.heap.size, 0, none⟩), .pointer (some ⟨w.heap.size + 1, 0, none⟩), .pointer (some ⟨w.heap.size + 2, 0, none⟩)]) ∧ Scan w' w.heap.size s 0 1 ∧ Below w.heap.size w w' ∧ w'.heap.size = w.heap.size + 3 := by
  have hmf : ∀ (fn : Fn) (first cap : Array Value) (w : World), (Instr.makeFunc fn first cap).run Tryz.prog w = .ok (.func fn first cap) w := fun _ _ _ _ => rfl
  go_enter Tryz.func16, Tryz.ntmps16
  go_wp2
  go_ret
  exact ⟨rfl, scan_start w s, ((bl1 _ _).alloc (bl1 _ _).size _).alloc (((bl1 _ _).alloc (bl1 _ _).size _)).size _, by simp⟩
/-! The closure -/
theorem FreeTok.drew {w : World} {b : Nat} {k l : Int} {t : ByteArray} (x : FreeTok w b k t l) : FreeTok w.drew b k t l := x
theorem FreeTok.other {w : World} {b c : Nat} {k l : Int} {t : ByteArray} (x : FreeTok w b k t l) (h : b ≠ c) (o : Nat) (v : Value) : FreeTok (w.setCell ⟨c, o, none⟩ v) b k t l := by
  have e : (w.setCell ⟨c, o, none⟩ v).heap[b]? = w.heap[b]? := Below.heap_setCell _ _ _ _ h
  obtain ⟨⟨a1, a2, a3⟩, a4, a5, a6⟩ := x
  exact ⟨⟨(World.cell?_of_block (a := ⟨b, 0, none⟩) e).trans a1, (World.cell?_of_block (a := ⟨b, 1, none⟩) e).trans a2, (World.cell?_of_block (a := ⟨b, 2, none⟩) e).trans a3⟩,
    (World.frozen?_of_block (a := ⟨b, 0, none⟩) e).trans a4, (World.frozen?_of_block (a := ⟨b, 1, none⟩) e).trans a5, (World.frozen?_of_block (a := ⟨b, 2, none⟩) e).trans a6⟩
theorem FreeTok.third {w : World} {b : Nat} {k l : Int} {t : ByteArray} (x : FreeTok w b k t l) (l2 : Int) : FreeTok (w.setCell ⟨b, 2, none⟩ (.int .i64 l2)) b k t l2 := by
  obtain ⟨⟨a1, a2, a3⟩, a4, a5, a6⟩ := x
  refine ⟨⟨?_, ?_, ?_⟩, ?_, ?_, ?_⟩
  all_goals go_simp
theorem Past.drew {h : Nat} {w w1 : World} (x : Past h w w1) : Past h w w1.drew := ⟨x.1.drew, x.2⟩
set_option maxRecDepth 100000 in
set_option maxHeartbeats 1600000 in
theorem scan_end (h k line g n : Nat) (s y x : ByteArray) (w : World) (hsc : Scan w h s k line) (hs : (s.size : Int) ≤ 1048576) (hg : k + g = s.size) (hx : s.extract k s.size = x) (hy : s.extract k (k + g) = y) (hys : y.size = g) (hn : n ≤ g) (hl : (line : Int) ≤ 1048577)
    (HG : Hid (∀ W, Calls Tryz.prog 33 #[.string x] W fun e w' => e = .returned (.int .i64 g) ∧ W = w'))
    (HN : Hid (∀ W, Calls Tryz.prog 34 #[.string y, .int .u8 10] W fun e w' => e = .returned (.int .i64 n) ∧ W = w')) :
    Calls Tryz.prog 32 #[.pointer (some ⟨h, 0, none⟩), .pointer (some ⟨h + 1, 0, none⟩), .pointer (some ⟨h + 2, 0, none⟩)] w fun e w' => e = .returned (.tuple #[.agg #[.int .i64 0, .string ByteArray.empty, .int .i64 0], .bool true]) ∧ Scan w' h s (k + g) (line + n) ∧ Past h w w' := by
  have hlt := hsc.lt
  have S1 := Lib.hid (hsc.later (bl1 w (.cells #[.int .i64 0, .string ⟨#[]⟩, .int .i64 0] 31)))
  have P1 := Lib.hid ((Past.refl h w).later (bl1 w (.cells #[.int .i64 0, .string ⟨#[]⟩, .int .i64 0] 31)) (by omega))
  have hk0 : (0 : Int) ≤ k := by omega
  have hk1 : (k : Int) ≤ s.size := by omega
  have hg0 : (0 : Int) ≤ (k : Int) + g := by omega
  have hg1 : (k : Int) + g ≤ s.size := by omega
  have hg2 : (k : Int) ≤ (k : Int) + g := by omega
  have hg3 : ((k : Int) + g).toNat = k + g := by omega
  have hw1 : IntKind.i64.wrap ((k : Int) + g) = (k : Int) + g := IntWalk.i64_in _ (by omega)
  have hnb : 0 ≤ (line : Int) + n ∧ (line : Int) + n ≤ 100000000 := by omega
  have HGE := Lib.hid hg
  clear hg
  obtain ⟨c0, c1, d1, c2, d2⟩ := S1.out.cells
  go_enter Tryz.func32, Tryz.ntmps32
  go_wp2_with fail
  go_quiet ((go_at_call 33; exact Calls.quiet_of_same ((HG.out _).mono fun e w2 hh => ⟨hh.1, hh.2.symm⟩)))
  go_wp2
  have S2 := Lib.hid ((S1.out.drewN nq).set1 (k + g) (.int .i64 ((k : Int) + g)) (by go_num))
  have P2 := Lib.hid ((P1.out.drewN nq).set (h + 1) 0 (.int .i64 ((k : Int) + g)) (.inl ⟨by omega, by omega⟩))
  obtain ⟨e0, e1, f1, e2, f2⟩ := S2.out.cells
  clear c0 c1 d1 c2 d2 hw1 HG S1 P1
  go_region_with (first | (go_at_call 34; refine (HN.out _).mono ?_; rintro e w5 ⟨rfl, rfl⟩))
  all_goals
    have hn1 : IntKind.i64.wrap ((line : Int) + n) = (line : Int) + n := IntWalk.i64_in _ (by omega)
    have S3 := Lib.hid (Scan.drew (S2.out.set2 (line + n) (.int .i64 (IntKind.i64.wrap ((line : Int) + n))) (by rw [hn1]; go_num)))
    have P3 := Lib.hid ((P2.out.set (h + 2) 0 (.int .i64 (IntKind.i64.wrap ((line : Int) + n))) (.inl ⟨by omega, by omega⟩)).drew)
    have F3 := Lib.hid (((((FreeTok.new w 0 ⟨#[]⟩ 0 31).drewN nq).other (show w.heap.size ≠ h + 1 by omega) 0 (.int .i64 ((k : Int) + g))).other (show w.heap.size ≠ h + 2 by omega) 0 (.int .i64 (IntKind.i64.wrap ((line : Int) + n)))).drew)
    clear e0 e1 f1 e2 f2 S2 P2 HN hn1
    generalize (((((w.alloc (.cells #[.int .i64 0, .string ⟨#[]⟩, .int .i64 0] 31)).drewN nq).setCell ⟨h + 1, 0, none⟩ (.int .i64 ((k : Int) + g))).setCell ⟨h + 2, 0, none⟩ (.int .i64 (IntKind.i64.wrap ((line : Int) + n)))).drew) = w3 at S3 P3 F3 ⊢
    obtain ⟨e0, e1, f1, e2, f2⟩ := S3.out.cells
    obtain ⟨⟨r0, r1, r2⟩, q0, q1, q2⟩ := F3.out
    have te : ((k : Int) + g == s.size) = true := beq_iff_eq.2 (by have := HGE.out; omega)
    go_wp2
    exact bodyPost_ret (v := .tuple #[.agg #[.int .i64 0, .string ⟨#[]⟩, .int .i64 0], .bool true]) (by simp [results, Tryz.results32, go_sem, r0, r1, r2]; try rfl) rfl ⟨rfl, ((S3.out.set3 (by omega) 0 _).set3 (by omega) 1 _).set3 (by omega) 2 _, ((P3.out.set _ 0 _ (.inr ⟨by omega, Nat.le_refl _⟩)).set _ 1 _ (.inr ⟨by omega, Nat.le_refl _⟩)).set _ 2 _ (.inr ⟨by omega, Nat.le_refl _⟩)⟩
set_option maxRecDepth 100000 in
set_option maxHeartbeats 3200000 in
theorem scan_tok (h k line g n : Nat) (s y x : ByteArray) (w : World) (hsc : Scan w h s k line) (hs : (s.size : Int) ≤ 1048576) (hg : k + g < s.size) (hx : s.extract k s.size = x) (hy : s.extract k (k + g) = y) (hys : y.size = g) (hn : n ≤ g) (hl : (line : Int) ≤ 1048577)
    (HG : Hid (∀ W, Calls Tryz.prog 33 #[.string x] W fun e w' => e = .returned (.int .i64 g) ∧ W = w'))
    (HN : Hid (∀ W, Calls Tryz.prog 34 #[.string y, .int .u8 10] W fun e w' => e = .returned (.int .i64 n) ∧ W = w'))
    (x2 : ByteArray) (hx2 : s.extract (k + g) s.size = x2) (kk : Int) (tt : ByteArray) (m : Nat) (hm : (m : Int) ≤ 1048576) (a : Addr) (hSa : SentAt a w) (hgl : 1 < h)
    (HR : Hid (∀ W, SentAt a W → Calls Tryz.prog 35 #[.string x2] W fun e w' => e = .returned (.tuple #[.agg #[.int .i64 kk, .string tt, .int .i64 0], .int .i64 (m : Int)]) ∧ Below W.heap.size W w')) :
    Calls Tryz.prog 32 #[.pointer (some ⟨h, 0, none⟩), .pointer (some ⟨h + 1, 0, none⟩), .pointer (some ⟨h + 2, 0, none⟩)] w fun e w' => e = .returned (.tuple #[.agg #[.int .i64 kk, .string tt, .int .i64 ((line + n : Nat) : Int)], .bool (!(kk == 0))]) ∧ Scan w' h s (k + g + m) (line + n) ∧ Past h w w' := by
  have HX2 := Lib.hid hx2
  have HM := Lib.hid hm
  have HSA := Lib.hid hSa
  clear hx2 hm hSa
  have hlt := hsc.lt
  have S1 := Lib.hid (hsc.later (bl1 w (.cells #[.int .i64 0, .string ⟨#[]⟩, .int .i64 0] 31)))
  have P1 := Lib.hid ((Past.refl h w).later (bl1 w (.cells #[.int .i64 0, .string ⟨#[]⟩, .int .i64 0] 31)) (by omega))
  have hk0 : (0 : Int) ≤ k := by omega
  have hk1 : (k : Int) ≤ s.size := by omega
  have hg0 : (0 : Int) ≤ (k : Int) + g := by omega
  have hg1 : (k : Int) + g ≤ s.size := by omega
  have hg2 : (k : Int) ≤ (k : Int) + g := by omega
  have hg3 : ((k : Int) + g).toNat = k + g := by omega
  have hw1 : IntKind.i64.wrap ((k : Int) + g) = (k : Int) + g := IntWalk.i64_in _ (by omega)
  have hnb : 0 ≤ (line : Int) + n ∧ (line : Int) + n ≤ 100000000 := by omega
  have HGE := Lib.hid hg
  clear hg
  obtain ⟨c0, c1, d1, c2, d2⟩ := S1.out.cells
  go_enter Tryz.func32, Tryz.ntmps32
  go_wp2_with fail
  go_quiet ((go_at_call 33; exact Calls.quiet_of_same ((HG.out _).mono fun e w2 hh => ⟨hh.1, hh.2.symm⟩)))
  go_wp2
  have S2 := Lib.hid ((S1.out.drewN nq).set1 (k + g) (.int .i64 ((k : Int) + g)) (by go_num))
  have P2 := Lib.hid ((P1.out.drewN nq).set (h + 1) 0 (.int .i64 ((k : Int) + g)) (.inl ⟨by omega, by omega⟩))
  obtain ⟨e0, e1, f1, e2, f2⟩ := S2.out.cells
  clear c0 c1 d1 c2 d2 hw1 HG S1 P1
  go_region_with (first | (go_at_call 34; refine (HN.out _).mono ?_; rintro e w5 ⟨rfl, rfl⟩))
  all_goals
    have hn1 : IntKind.i64.wrap ((line : Int) + n) = (line : Int) + n := IntWalk.i64_in _ (by omega)
    have S3 := Lib.hid (Scan.drew (S2.out.set2 (line + n) (.int .i64 (IntKind.i64.wrap ((line : Int) + n))) (by rw [hn1]; go_num)))
    have P3 := Lib.hid ((P2.out.set (h + 2) 0 (.int .i64 (IntKind.i64.wrap ((line : Int) + n))) (.inl ⟨by omega, by omega⟩)).drew)
    have F3 := Lib.hid (((((FreeTok.new w 0 ⟨#[]⟩ 0 31).drewN nq).other (show w.heap.size ≠ h + 1 by omega) 0 (.int .i64 ((k : Int) + g))).other (show w.heap.size ≠ h + 2 by omega) 0 (.int .i64 (IntKind.i64.wrap ((line : Int) + n)))).drew)
    clear e0 e1 f1 e2 f2 S2 P2 HN hn1
    generalize (((((w.alloc (.cells #[.int .i64 0, .string ⟨#[]⟩, .int .i64 0] 31)).drewN nq).setCell ⟨h + 1, 0, none⟩ (.int .i64 ((k : Int) + g))).setCell ⟨h + 2, 0, none⟩ (.int .i64 (IntKind.i64.wrap ((line : Int) + n)))).drew) = w3 at S3 P3 F3 ⊢
    have hsz3 := P3.out.1.size
    have hF3 := F3.out.lt
    have HR3 := Lib.hid (HR.out w3 ((P3.out.1.cell (p := ⟨1, 0, none⟩) hgl).trans HSA.out))
    obtain ⟨e0, e1, f1, e2, f2⟩ := S3.out.cells
    have te : ((k : Int) + g == s.size) = false := beq_eq_false_iff_ne.2 (by have := HGE.out; omega)
    have hx2 := HX2.out
    have hm0 := HM.out
    go_wp2_with fail
    clear e0 e1 f1 e2 f2
    go_wp2_with (first | (go_at_call 35; refine HR3.out.mono ?_; rintro e w4 ⟨rfl, hb4⟩; have B4 := Lib.hid hb4; have S5 := Lib.hid ((S3.out.later hb4).later (bl1 w4 (.cells #[.int .i64 kk, .string tt, .int .i64 0] 31))); have P5 := Lib.hid ((P3.out.later hb4 (by omega)).later (bl1 w4 (.cells #[.int .i64 kk, .string tt, .int .i64 0] 31)) (by have := hb4.size; omega)); have F5 := Lib.hid ((F3.out.later hb4).later (bl1 w4 (.cells #[.int .i64 kk, .string tt, .int .i64 0] 31))); have G5 := Lib.hid (FreeTok.new w4 kk tt 0 31); obtain ⟨e0, e1, f1, e2, f2⟩ := S5.out.cells; obtain ⟨⟨r0, r1, r2⟩, q0, q1, q2⟩ := F5.out; obtain ⟨⟨t0, t1, t2⟩, u0, u1, u2⟩ := G5.out; clear hb4))
    have hb4 := B4.out.size
    have S9 := Lib.hid ((S5.out.set1 (k + g + m) (.int .i64 ((k : Int) + g + m)) (by go_num)).set3 (show h + 3 ≤ w4.heap.size by omega) 2 (.int .i64 ((line : Int) + n)))
    have P9 := Lib.hid ((P5.out.set (h + 1) 0 (.int .i64 ((k : Int) + g + m)) (.inl ⟨by omega, by omega⟩)).set w4.heap.size 2 (.int .i64 ((line : Int) + n)) (.inr ⟨by omega, by omega⟩))
    have F9 := Lib.hid ((F5.out.other (show w.heap.size ≠ h + 1 by omega) 0 (.int .i64 ((k : Int) + g + m))).other (show w.heap.size ≠ w4.heap.size by omega) 2 (.int .i64 ((line : Int) + n)))
    have G9 := Lib.hid ((G5.out.other (show w4.heap.size ≠ h + 1 by omega) 0 (.int .i64 ((k : Int) + g + m))).third ((line : Int) + n))
    clear e0 e1 f1 e2 f2 r0 r1 r2 q0 q1 q2 t0 t1 t2 u0 u1 u2 S5 P5 F5 G5 S3 P3 F3 HR3 HR B4
    generalize hW9 : (((w4.alloc (.cells #[.int .i64 kk, .string tt, .int .i64 0] 31)).setCell ⟨h + 1, 0, none⟩ (.int .i64 ((k : Int) + g + m))).setCell ⟨w4.heap.size, 2, none⟩ (.int .i64 ((line : Int) + n))) = w9 at S9 P9 F9 G9 ⊢
    clear hW9
    obtain ⟨⟨r0, r1, r2⟩, q0, q1, q2⟩ := F9.out
    obtain ⟨⟨t0, t1, t2⟩, u0, u1, u2⟩ := G9.out
    go_region
  all_goals go_wp2
  all_goals exact bodyPost_ret (v := .tuple #[.agg #[.int .i64 kk, .string tt, .int .i64 ((line : Int) + n)], .bool (!(kk == 0))]) (by simp [results, Tryz.results32, go_sem, r0, r1, r2]; try rfl) rfl ⟨by rw [Int.natCast_add], ((S9.out.set3 (by omega) 0 _).set3 (by omega) 1 _).set3 (by omega) 2 _, (((P9.out.set _ 0 _ (.inr ⟨by omega, Nat.le_refl _⟩)).set _ 1 _ (.inr ⟨by omega, Nat.le_refl _⟩)).set _ 2 _ (.inr ⟨by omega, Nat.le_refl _⟩)).drew⟩
end Go.Proofs.YtfhakailbikjkaaGreatDoor
/- Which tokens begin or end an expression, the text of a token, in the program. No conditions. -/

namespace Go.Proofs.YtfhakailbikjkaaGreatDoor
open Go.RowKit
set_option linter.unusedVariables false

theorem other_kind {k : Int} (h : k ≠ 1 ∧ k ≠ 2 ∧ k ≠ 3 ∧ k ≠ 4 ∧ k ≠ 5 ∧ k ≠ 6 ∧ k ≠ 7) : (k == 1 || (decide (3 ≤ k) && decide (k ≤ 6))) = false := by
  have : ¬ (3 ≤ k ∧ k ≤ 6) := by omega
  simp [h.1]; omega
theorem begins_other {k : Int} (t : List UInt8) (h : k ≠ 1 ∧ k ≠ 2 ∧ k ≠ 3 ∧ k ≠ 4 ∧ k ≠ 5 ∧ k ≠ 6 ∧ k ≠ 7) : Tk.begins k t = false := by
  unfold Tk.begins; rw [if_neg h.2.1, if_neg h.2.2.2.2.2.2]; exact other_kind h
theorem ends_other {k : Int} (t : List UInt8) (h : k ≠ 1 ∧ k ≠ 2 ∧ k ≠ 3 ∧ k ≠ 4 ∧ k ≠ 5 ∧ k ≠ 6 ∧ k ≠ 7) : Tk.ends k t = false := by
  unfold Tk.ends; rw [if_neg h.2.1, if_neg h.2.2.2.2.2.2]; exact other_kind h
theorem kind_ways (k : Int) : (k = 1 ∨ k = 3 ∨ k = 4 ∨ k = 5 ∨ k = 6) ∨ k = 2 ∨ k = 7 ∨ (k ≠ 1 ∧ k ≠ 2 ∧ k ≠ 3 ∧ k ≠ 4 ∧ k ≠ 5 ∧ k ≠ 6 ∧ k ≠ 7) := by omega

set_option maxHeartbeats 3200000 in
theorem impl_begins (k : Int) (t : ByteArray) (ln : Int) (w : World) : Calls Tryz.prog 37 #[tokV k t ln] w fun e w' => e = .returned (.bool (Tk.begins k t.data.toList)) ∧ Below w.heap.size w w' := by
  unfold tokV
  rcases kind_ways k with (rfl | rfl | rfl | rfl | rfl) | rfl | rfl | h
  case inl.inl => 
    rw [show Tk.begins 1 t.data.toList = true from rfl]
    go_enter Tryz.func37, Tryz.ntmps37
    go_wp2
    go_ret
    exact ⟨rfl, bl1 _ _⟩
  case inl.inr.inl => 
    rw [show Tk.begins 3 t.data.toList = true from rfl]
    go_enter Tryz.func37, Tryz.ntmps37
    go_wp2
    go_ret
    exact ⟨rfl, bl1 _ _⟩
  case inl.inr.inr.inl => 
    rw [show Tk.begins 4 t.data.toList = true from rfl]
    go_enter Tryz.func37, Tryz.ntmps37
    go_wp2
    go_ret
    exact ⟨rfl, bl1 _ _⟩
  case inl.inr.inr.inr.inl => 
    rw [show Tk.begins 5 t.data.toList = true from rfl]
    go_enter Tryz.func37, Tryz.ntmps37
    go_wp2
    go_ret
    exact ⟨rfl, bl1 _ _⟩
  case inl.inr.inr.inr.inr => 
    rw [show Tk.begins 6 t.data.toList = true from rfl]
    go_enter Tryz.func37, Tryz.ntmps37
    go_wp2
    go_ret
    exact ⟨rfl, bl1 _ _⟩
  case inr.inl =>
    rw [show Tk.begins 2 t.data.toList = hasW Tk.beg2 t.data.toList from rfl]
    go_enter Tryz.func37, Tryz.ntmps37
    go_wp2
    all_goals first
      | (refine both (b := ?_) ?_ ?_; rotate_left; assumption; assumption)
      | (go_ret; refine ⟨word_yes (x := ?_) ?_ ?_, bl1 _ _⟩; rotate_left; assumption; decide)
      | (go_ret; refine ⟨word_no ?_, bl1 _ _⟩; simp only [Tk.beg2, List.contains_cons, List.contains_nil, Bool.or_false, *])
  case inr.inr.inl =>
    rw [show Tk.begins 7 t.data.toList = hasW Tk.beg7 t.data.toList from rfl]
    go_enter Tryz.func37, Tryz.ntmps37
    go_wp2
    all_goals first
      | (refine both (b := ?_) ?_ ?_; rotate_left; assumption; assumption)
      | (go_ret; refine ⟨word_yes (x := ?_) ?_ ?_, bl1 _ _⟩; rotate_left; assumption; decide)
      | (go_ret; refine ⟨word_no ?_, bl1 _ _⟩; simp only [Tk.beg7, List.contains_cons, List.contains_nil, Bool.or_false, *])
  case inr.inr.inr =>
    rw [begins_other _ h]
    have u1 : (k == 1) = false := beq_eq_false_iff_ne.2 (by omega)
    have u2 : (k == 2) = false := beq_eq_false_iff_ne.2 (by omega)
    have u3 : (k == 3) = false := beq_eq_false_iff_ne.2 (by omega)
    have u4 : (k == 4) = false := beq_eq_false_iff_ne.2 (by omega)
    have u5 : (k == 5) = false := beq_eq_false_iff_ne.2 (by omega)
    have u6 : (k == 6) = false := beq_eq_false_iff_ne.2 (by omega)
    have u7 : (k == 7) = false := beq_eq_false_iff_ne.2 (by omega)
    clear h
    go_enter Tryz.func37, Tryz.ntmps37
    go_wp2
    go_ret
    exact ⟨rfl, bl1 _ _⟩

set_option maxHeartbeats 3200000 in
theorem impl_ends (k : Int) (t : ByteArray) (ln : Int) (w : World) : Calls Tryz.prog 36 #[tokV k t ln] w fun e w' => e = .returned (.bool (Tk.ends k t.data.toList)) ∧ Below w.heap.size w w' := by
  unfold tokV
  rcases kind_ways k with (rfl | rfl | rfl | rfl | rfl) | rfl | rfl | h
  case inl.inl => 
    rw [show Tk.ends 1 t.data.toList = true from rfl]
    go_enter Tryz.func36, Tryz.ntmps36
    go_wp2
    go_ret
    exact ⟨rfl, bl1 _ _⟩
  case inl.inr.inl => 
    rw [show Tk.ends 3 t.data.toList = true from rfl]
    go_enter Tryz.func36, Tryz.ntmps36
    go_wp2
    go_ret
    exact ⟨rfl, bl1 _ _⟩
  case inl.inr.inr.inl => 
    rw [show Tk.ends 4 t.data.toList = true from rfl]
    go_enter Tryz.func36, Tryz.ntmps36
    go_wp2
    go_ret
    exact ⟨rfl, bl1 _ _⟩
  case inl.inr.inr.inr.inl => 
    rw [show Tk.ends 5 t.data.toList = true from rfl]
    go_enter Tryz.func36, Tryz.ntmps36
    go_wp2
    go_ret
    exact ⟨rfl, bl1 _ _⟩
  case inl.inr.inr.inr.inr => 
    rw [show Tk.ends 6 t.data.toList = true from rfl]
    go_enter Tryz.func36, Tryz.ntmps36
    go_wp2
    go_ret
    exact ⟨rfl, bl1 _ _⟩
  case inr.inl =>
    rw [show Tk.ends 2 t.data.toList = hasW Tk.end2 t.data.toList from rfl]
    go_enter Tryz.func36, Tryz.ntmps36
    go_wp2
    all_goals first
      | (refine both (b := ?_) ?_ ?_; rotate_left; assumption; assumption)
      | (go_ret; refine ⟨word_yes (x := ?_) ?_ ?_, bl1 _ _⟩; rotate_left; assumption; decide)
      | (go_ret; refine ⟨word_no ?_, bl1 _ _⟩; simp only [Tk.end2, List.contains_cons, List.contains_nil, Bool.or_false, *])
  case inr.inr.inl =>
    rw [show Tk.ends 7 t.data.toList = hasW Tk.end7 t.data.toList from rfl]
    go_enter Tryz.func36, Tryz.ntmps36
    go_wp2
    all_goals first
      | (refine both (b := ?_) ?_ ?_; rotate_left; assumption; assumption)
      | (go_ret; refine ⟨word_yes (x := ?_) ?_ ?_, bl1 _ _⟩; rotate_left; assumption; decide)
      | (go_ret; refine ⟨word_no ?_, bl1 _ _⟩; simp only [Tk.end7, List.contains_cons, List.contains_nil, Bool.or_false, *])
  case inr.inr.inr =>
    rw [ends_other _ h]
    have u1 : (k == 1) = false := beq_eq_false_iff_ne.2 (by omega)
    have u2 : (k == 2) = false := beq_eq_false_iff_ne.2 (by omega)
    have u3 : (k == 3) = false := beq_eq_false_iff_ne.2 (by omega)
    have u4 : (k == 4) = false := beq_eq_false_iff_ne.2 (by omega)
    have u5 : (k == 5) = false := beq_eq_false_iff_ne.2 (by omega)
    have u6 : (k == 6) = false := beq_eq_false_iff_ne.2 (by omega)
    have u7 : (k == 7) = false := beq_eq_false_iff_ne.2 (by omega)
    clear h
    go_enter Tryz.func36, Tryz.ntmps36
    go_wp2
    go_ret
    exact ⟨rfl, bl1 _ _⟩
end Go.Proofs.YtfhakailbikjkaaGreatDoor
/- The reference model's SplitByte returns the parts of a string, in memory of its own. -/
namespace Go.Proofs.YtfhakailbikjkaaGreatDoor
open Go.RowKit
set_option linter.unusedVariables false

theorem info_string : (Tryz.prog.info? 9).map (fun i => (i.zero, i.size, i.bytes)) = some (some (.string ByteArray.empty), 1, 16) := by kernel_rfl

/-- Strings of the call's own: a slice whose elements are l, in a block from base on. -/
def Owns (w : World) (base : Nat) (v : Value) (l : List ByteArray) : Prop := w.ownsRow base 9 1 v l.length (l.map Value.string)

theorem map_snoc (l : List ByteArray) (x : ByteArray) : (l ++ [x]).map Value.string = l.map Value.string ++ [Value.string x] := by simp

theorem owns_app {w1 : World} {base : Nat} {v' : Value} {l : List ByteArray} {x : ByteArray} (h : w1.ownsRow base 9 1 v' (l.length + 1) (l.map Value.string ++ [Value.string x])) : Owns w1 base v' (l ++ [x]) := by
  unfold Owns; rw [map_snoc, List.length_append]; exact h

theorem below_app {w wr w1 : World} {v : Value} {l : List ByteArray} {o : Obj} (hb : Below w.heap.size w wr) (hown : Owns wr w.heap.size v l) (hg : (wr.alloc o).grownBy w1 v.ownBlock) : Below w.heap.size w w1 :=
  (hb.alloc hb.size o).grown hg (by have := hb.size; simp; omega) (fun k hk => (hown.lt k hk).1)

theorem owns_below {w w1 : World} {base : Nat} {v : Value} {l : List ByteArray} (h : Owns w base v l) (hb : Below w.heap.size w w1) : Owns w1 base v l := by
  refine ⟨h.1, ?_⟩
  rcases h.2 with hn | ⟨g, cap, cur, hv, hg, hgg, r⟩
  · exact .inl hn
  · exact .inr ⟨g, cap, cur, hv, hg, by rw [hb.block g (Array.getElem?_eq_some_iff.1 hgg).1]; exact hgg, r⟩

theorem new_cell (w : World) (x : Value) (t : TypeId) : ∀ (j : Nat) (u : Value), [x][j]? = some u → (w.alloc (.cells #[x] t)).cell? ((⟨w.heap.size, 0, none⟩ : Addr).add j) = some u := by
  intro j u hj
  match j, hj with
  | 0, hj => simp at hj; subst hj; simp [Addr.add]

theorem one_string (x : ByteArray) : ∀ u ∈ [Value.string x], u.oneCell' = true := by
  intro u hu; simp at hu; subst hu; rfl

theorem max_small {n : Nat} (h : n ≤ 1048577) : n ≤ maxLen := by unfold maxLen; omega

end Go.Proofs.YtfhakailbikjkaaGreatDoor
/- The laws' own helpers over slices of strings: comparing them, and comparing them again after a draw. No conditions. -/
namespace Go.Proofs.YtfhakailbikjkaaGreatDoor
open Go.RowKit
set_option linter.unusedVariables false

/-- A slice of strings that can be read. -/
def Reads (w : World) (v : Value) (l : List ByteArray) : Prop :=
  ((∃ a c, v = .slice a 0 c) ∧ l = []) ∨ ∃ g off cap, v = .slice (some ⟨g, off, none⟩) l.length cap ∧ l.length ≤ maxLen ∧ ∀ i, i < l.length → w.cell? ⟨g, off + i, none⟩ = some (.string (l.getD i ByteArray.empty))

theorem add_lit (g o i : Nat) : (⟨g, o, none⟩ : Addr).add i = ⟨g, o + i, none⟩ := by
  unfold Addr.add; split <;> simp_all

theorem reads_of_owns {w : World} {base : Nat} {v : Value} {l : List ByteArray} (h : Owns w base v l) : Reads w v l := by
  rcases h.2 with ⟨rfl, h0⟩ | ⟨g, cap, cur, rfl, hb, hg, hn, hm, hs, ht⟩
  · exact .inl ⟨⟨_, _, rfl⟩, List.length_eq_zero_iff.1 h0⟩
  · refine .inr ⟨g, 0, cap, rfl, by omega, fun i hi => ?_⟩
    have h1 := h.cells (g := g) rfl i (.string l[i]) (by simp [hi])
    rw [show (⟨g, 0, none⟩ : Addr).add i = ⟨g, 0 + i, none⟩ from add_lit g 0 i] at h1
    rw [h1]; simp [List.getD, List.getElem?_eq_getElem hi]

theorem reads_empty {w : World} {v : Value} (h : Reads w v []) : ∃ a c, v = .slice a 0 c := by
  rcases h with ⟨h, _⟩ | ⟨g, off, cap, rfl, _⟩
  · exact h
  · exact ⟨_, _, rfl⟩
theorem reads_some {w : World} {v : Value} {l : List ByteArray} (h : Reads w v l) (hl : l ≠ []) : ∃ g off cap, v = .slice (some ⟨g, off, none⟩) l.length cap ∧ l.length ≤ maxLen ∧ ∀ i, i < l.length → w.cell? ⟨g, off + i, none⟩ = some (.string (l.getD i ByteArray.empty)) := by
  rcases h with ⟨_, h0⟩ | h
  · exact absurd h0 hl
  · exact h
theorem reads_below {w w1 : World} {v : Value} {l : List ByteArray} (h : Reads w v l) (hb : Below w.heap.size w w1) : Reads w1 v l := by
  rcases h with h | ⟨g, off, cap, hv, hm, hc⟩
  · exact .inl h
  · exact .inr ⟨g, off, cap, hv, hm, fun i hi => (hb.cell (World.block_lt_of_cell? w _ (hc i hi))).trans (hc i hi)⟩

/-- The letters that the laws write into a slice's places. -/
def mark (k : Nat) : ByteArray := ⟨(109 :: Dec.digs k).toArray⟩

/-- n places with letters from k on. -/
def marks (k n : Nat) : List ByteArray := (List.range n).map fun i => mark (k + i)
theorem marks_length (k n : Nat) : (marks k n).length = n := by simp [marks]
theorem marks_get (k n i : Nat) (h : i < n) : (marks k n).getD i ByteArray.empty = mark (k + i) := by
  simp [marks, List.getD, h]

/-- The places of a slice, the first i of them marked. -/
def partly (l : List ByteArray) (i : Nat) : List ByteArray := marks 1 i ++ l.drop i
theorem partly_length (l : List ByteArray) (i : Nat) (h : i ≤ l.length) : (partly l i).length = l.length := by
  simp [partly, marks_length]; omega
theorem marks_succ (k n : Nat) : marks k (n + 1) = marks k n ++ [mark (k + n)] := by simp [marks, List.range_succ]
theorem partly_set (l : List ByteArray) (i : Nat) (h : i < l.length) : (partly l i).set i (mark (1 + i)) = partly l (i + 1) := by
  unfold partly
  rw [marks_succ, List.set_append_right _ _ (by rw [marks_length]; exact Nat.le_refl _), marks_length, Nat.sub_self, List.drop_eq_getElem_cons h, List.append_assoc]
  rfl
theorem partly_zero (l : List ByteArray) : partly l 0 = l := by simp [partly, marks]
theorem partly_all (l : List ByteArray) : partly l l.length = marks 1 l.length := by simp [partly]

theorem owns_cell {w : World} {base g n cap : Nat} {l : List ByteArray} (hn : n = l.length) (h : Owns w base (.slice (some ⟨g, 0, none⟩) n cap) l) (i : Nat) (hi : i < n) : w.cell? ⟨g, i, none⟩ = some (.string (l.getD i ByteArray.empty)) ∧ w.frozen? ⟨g, i, none⟩ = false := by
  subst hn
  refine ⟨?_, World.ownsRow.frozenAt h i⟩
  rw [World.ownsRow.cellAt h i (by omega)]
  simp [List.getD, List.getElem?_eq_getElem hi]

theorem owns_set {w : World} {base g n cap : Nat} {l : List ByteArray} (hn : n = l.length) (h : Owns w base (.slice (some ⟨g, 0, none⟩) n cap) l) (i : Nat) (x : ByteArray) : Owns (w.setCell ⟨g, i, none⟩ (.string x)) base (.slice (some ⟨g, 0, none⟩) n cap) (l.set i x) := by
  subst hn
  have h1 := (World.ownsRow.stored h i (.string x)).1
  unfold Owns
  rw [List.length_set, List.map_set]
  exact h1

end Go.Proofs.YtfhakailbikjkaaGreatDoor
/- The token that begins at a place, in the reference model, whatever its first byte; rows of tokens in memory. No conditions. -/
namespace Go.Proofs.YtfhakailbikjkaaGreatDoor
open Go.RowKit
set_option linter.unusedVariables false

theorem one_any (s : ByteArray) (i : Nat) (w : World) (hs : (s.size : Int) ≤ 1048576) (hi : i < s.size) :
    Calls Tryz.prog 18 #[.string s, .int .i64 (i : Int)] w (RetOne w i (Tk.one denM (s.data.toList.drop i))) := by
  cases hl : Tk.letter s[i]
  · cases hd : Dec.isDig s[i]
    · by_cases h34 : s[i] = 34
      · exact one_quoted s i w hs hi h34
      · by_cases h39 : s[i] = 39
        · exact one_cset s i w hs hi h39
        · by_cases h38 : s[i] = 38
          · rcases Nat.lt_or_ge (i + 1) s.size with h | h
            · cases hl2 : Tk.letter s[i + 1]
              · exact one_op s i w hs hi hl hd h34 h39 (.inr (.inr ⟨h38, h, hl2⟩))
              · exact one_keyword s i w hs hi h38 h hl2
            · exact one_op s i w hs hi hl hd h34 h39 (.inr (.inl ⟨h38, h⟩))
          · exact one_op s i w hs hi hl hd h34 h39 (.inl h38)
    · exact one_int s i w hs hi hd
  · exact one_word s i w hs hi hl

/-- A token in memory. -/
abbrev TokB := Int × ByteArray × Int
def toB (x : Tk.Tok) : TokB := (x.1, str8 x.2.1, x.2.2)
def tokCells (l : List TokB) : List Value := l.flatMap fun x => [.int .i64 x.1, .string x.2.1, .int .i64 x.2.2]
theorem tokCells_app (a b : List TokB) : tokCells (a ++ b) = tokCells a ++ tokCells b := by unfold tokCells; rw [List.flatMap_append]
theorem tokCells_one (x : TokB) : tokCells [x] = [.int .i64 x.1, .string x.2.1, .int .i64 x.2.2] := rfl
theorem tokCells_get (l : List TokB) : ∀ (i : Nat) (h : i < l.length), (tokCells l)[i * 3]? = some (.int .i64 l[i].1) ∧ (tokCells l)[i * 3 + 1]? = some (.string l[i].2.1) ∧ (tokCells l)[i * 3 + 2]? = some (.int .i64 l[i].2.2) := by
  induction l with
  | nil => intro i h; simp at h
  | cons x l ih =>
    intro i h
    have e : tokCells (x :: l) = Value.int .i64 x.1 :: Value.string x.2.1 :: Value.int .i64 x.2.2 :: tokCells l := rfl
    match i with
    | 0 => rw [e]; exact ⟨rfl, rfl, rfl⟩
    | i + 1 =>
      have h2 := ih i (by simpa using h)
      rw [e, show (i + 1) * 3 = i * 3 + 3 by omega]
      exact h2
/-- Tokens of the call's own. -/
def OwnT (w : World) (base : Nat) (v : Value) (l : List TokB) : Prop := w.ownsRow base 31 3 v l.length (tokCells l)
theorem ownT_app {w1 : World} {base : Nat} {v' : Value} {l : List TokB} {x : TokB} (h : w1.ownsRow base 31 3 v' (l.length + 1) (tokCells l ++ [.int .i64 x.1, .string x.2.1, .int .i64 x.2.2])) : OwnT w1 base v' (l ++ [x]) := by
  unfold OwnT; rw [tokCells_app, tokCells_one, List.length_append]; exact h
theorem ownT_below {w w1 : World} {base : Nat} {v : Value} {l : List TokB} (h : OwnT w base v l) (hb : Below w.heap.size w w1) : OwnT w1 base v l := by
  refine ⟨h.1, ?_⟩
  rcases h.2 with hn | ⟨g, cap, cur, hv, hg, hgg, r⟩
  · exact .inl hn
  · exact .inr ⟨g, cap, cur, hv, hg, by rw [hb.block g (Array.getElem?_eq_some_iff.1 hgg).1]; exact hgg, r⟩
theorem belowT_app {w wr w1 : World} {v : Value} {l : List TokB} {o : Obj} (hb : Below w.heap.size w wr) (hown : OwnT wr w.heap.size v l) (hg : (wr.alloc o).grownBy w1 v.ownBlock) : Below w.heap.size w w1 :=
  (hb.alloc hb.size o).grown hg (by have := hb.size; simp; omega) (fun k hk => (hown.lt k hk).1)
theorem ownT_drewN {w : World} {base : Nat} {v : Value} {l : List TokB} (h : OwnT w base v l) (n : Nat) : OwnT (w.drewN n) base v l := by
  induction n with
  | zero => exact h
  | succ n ih => exact ih
theorem ownT_made (w : World) : OwnT (w.alloc (.cells #[] 31)) w.heap.size (.slice (some ⟨w.heap.size, 0, none⟩) 0 0) [] := World.ownsRow_made w #[] 0 (Nat.le_refl _) (by unfold maxLen; omega) rfl
theorem ownT_nil (w : World) (base : Nat) : OwnT w base (.slice none 0 0) [] := World.ownsRow_nil w base _ _
theorem ownT_len {w : World} {base : Nat} {v : Value} {l : List TokB} (h : OwnT w base v l) : ∃ a c, v = .slice a l.length c := by
  rcases h.2 with ⟨rfl, h0⟩ | ⟨g, cap, cur, rfl, _⟩
  · exact ⟨none, 0, by rw [h0]⟩
  · exact ⟨_, _, rfl⟩
theorem ownT_some {w : World} {base : Nat} {v : Value} {l : List TokB} (h : OwnT w base v l) (hl : l ≠ []) : ∃ g cap, v = .slice (some ⟨g, 0, none⟩) l.length cap ∧ base ≤ g ∧ l.length ≤ cap ∧ cap ≤ maxLen := by
  rcases h.2 with ⟨rfl, h0⟩ | ⟨g, cap, cur, rfl, hb, _, h1, h2, _⟩
  · exact absurd (List.length_eq_zero_iff.1 h0) hl
  · exact ⟨g, cap, rfl, hb, h1, h2⟩
theorem ownT_cell {w : World} {base g n cap : Nat} {l : List TokB} (hn : n = l.length) (h : OwnT w base (.slice (some ⟨g, 0, none⟩) n cap) l) (i : Nat) (hi : i < l.length) :
    (w.cell? ⟨g, i * 3, none⟩ = some (.int .i64 l[i].1) ∧ w.cell? ⟨g, i * 3 + 1, none⟩ = some (.string l[i].2.1) ∧ w.cell? ⟨g, i * 3 + 2, none⟩ = some (.int .i64 l[i].2.2)) ∧ w.frozen? ⟨g, i * 3, none⟩ = false ∧ w.frozen? ⟨g, i * 3 + 1, none⟩ = false ∧ w.frozen? ⟨g, i * 3 + 2, none⟩ = false := by
  subst hn
  obtain ⟨a, b, c⟩ := tokCells_get l i hi
  refine ⟨⟨?_, ?_, ?_⟩, World.ownsRow.frozenAt h _, World.ownsRow.frozenAt h _, World.ownsRow.frozenAt h _⟩
  · rw [World.ownsRow.cellAt h _ (by omega)]; exact a
  · rw [World.ownsRow.cellAt h _ (by omega)]; exact b
  · rw [World.ownsRow.cellAt h _ (by omega)]; exact c
theorem info_tok : (Tryz.prog.info? 31).map (fun i => (i.zero, i.size, i.bytes)) = some (some (.agg #[.int .i64 0, .string ByteArray.empty, .int .i64 0]), 3, 32) := by kernel_rfl
theorem new_tok (w : World) (a b c : Value) (t : TypeId) : ∀ (j : Nat) (u : Value), [a, b, c][j]? = some u → (w.alloc (.cells #[a, b, c] t)).cell? ((⟨w.heap.size, 0, none⟩ : Addr).add j) = some u := by
  intro j u hj
  rw [add_lit, Nat.zero_add, World.cell?_alloc_mark]
  match j, hj with
  | 0, hj => simp at hj; subst hj; rfl
  | 1, hj => simp at hj; subst hj; rfl
  | 2, hj => simp at hj; subst hj; rfl
theorem one_tok (a : Int) (b : ByteArray) (c : Int) : ∀ u ∈ [Value.int .i64 a, .string b, .int .i64 c], u.oneCell' = true := by
  intro u hu; simp at hu; rcases hu with rfl | rfl | rfl <;> rfl
end Go.Proofs.YtfhakailbikjkaaGreatDoor
/- Lex of the reference model. No conditions. -/
namespace Go.Proofs.YtfhakailbikjkaaGreatDoor
open Go.RowKit
set_option linter.unusedVariables false

theorem drop_at (s : ByteArray) (k : Nat) (hk : k < s.size) : s.data.toList.drop k = s[k] :: s.data.toList.drop (k + 1) := by rw [List.drop_eq_getElem_cons (show k < s.data.toList.length from hk)]; rfl
/-- What Lex answers. -/
def RetLex (w : World) (R : Nat × List Tk.Tok) (e : Ending) (w' : World) : Prop := ∃ v, e = .returned (.tuple #[v, .int .i64 (R.1 : Int)]) ∧ OwnT w' w.heap.size v (R.2.map toB) ∧ Below w.heap.size w w'
/-- Where Lex stands. -/
def LexAt (w : World) (s : ByteArray) (R : Nat × List Tk.Tok) (k line : Nat) (fr : Bool) (out : List Tk.Tok) (v : Value) (wr : World) : Prop :=
  Tk.lexW denM (s.data.toList.drop k) line fr out = R ∧ line ≤ k + 1 ∧ out.length ≤ 2 * k ∧ OwnT wr w.heap.size v (out.map toB) ∧ Below w.heap.size w wr
theorem LexAt.start (w : World) (s : ByteArray) (h : s.data.toList.length ≤ 6000) : LexAt w s (Tk.lex denM s.data.toList) 0 1 false [] (.slice (some ⟨w.heap.size, 0, none⟩) 0 0) (w.alloc (.cells #[] 31)) := by
  refine ⟨?_, by omega, by simp, ownT_made w, (Below.refl _ _).alloc (Nat.le_refl _) _⟩
  unfold Tk.lex
  rw [if_neg (by omega)]; rfl
theorem LexAt.done {w wr : World} {s : ByteArray} {R : Nat × List Tk.Tok} {k line : Nat} {fr : Bool} {out : List Tk.Tok} {v : Value} (h : LexAt w s R k line fr out v wr) (hk : s.data.toList.length ≤ k) : R = (0, out) := by
  rw [← h.1, List.drop_eq_nil_of_le hk, Tk.lexW_nil]
theorem LexAt.line {w wr : World} {s : ByteArray} {R : Nat × List Tk.Tok} {k line : Nat} {fr : Bool} {out : List Tk.Tok} {v : Value} (h : LexAt w s R k line fr out v wr) (hk : k < s.size) (hb : s[k] = 10) : LexAt w s R (k + 1) (line + 1) true out v wr := by
  refine ⟨?_, by have := h.2.1; omega, by have := h.2.2.1; omega, h.2.2.2⟩
  have h1 := h.1
  rw [drop_at s k hk, hb, Tk.lexW_line] at h1
  exact h1
theorem LexAt.blank {w wr : World} {s : ByteArray} {R : Nat × List Tk.Tok} {k line : Nat} {fr : Bool} {out : List Tk.Tok} {v : Value} (h : LexAt w s R k line fr out v wr) (hk : k < s.size) (hb : s[k] = 32 ∨ s[k] = 9) : LexAt w s R (k + 1) line fr out v wr := by
  refine ⟨?_, by have := h.2.1; omega, by have := h.2.2.1; omega, h.2.2.2⟩
  have h1 := h.1
  rw [drop_at s k hk, Tk.lexW_blank denM _ _ _ _ hb] at h1
  exact h1
/-- The end of a comment. -/
def noteEnd (s : ByteArray) (k : Nat) : Nat := k + ((s.data.toList.drop k).takeWhile fun c => c != 10).length
theorem drop_tw (p : UInt8 → Bool) (l : List UInt8) : l.drop (l.takeWhile p).length = l.dropWhile p := by
  induction l with
  | nil => rfl
  | cons b l ih =>
    by_cases h : p b = true
    · rw [List.takeWhile_cons, if_pos h, List.dropWhile_cons, if_pos h]; exact ih
    · rw [List.takeWhile_cons, if_neg h, List.dropWhile_cons, if_neg h]; rfl
theorem LexAt.note {w wr : World} {s : ByteArray} {R : Nat × List Tk.Tok} {k line : Nat} {fr : Bool} {out : List Tk.Tok} {v : Value} (h : LexAt w s R k line fr out v wr) (hk : k < s.size) (hb : s[k] = 35) : LexAt w s R (noteEnd s k) line fr out v wr := by
  have hle : k ≤ noteEnd s k := Nat.le_add_right _ _
  refine ⟨?_, by have := h.2.1; omega, by have := h.2.2.1; omega, h.2.2.2⟩
  have h1 := h.1
  have e : s.data.toList.drop (noteEnd s k) = (s.data.toList.drop k).dropWhile fun c => c != 10 := by
    unfold noteEnd
    rw [← drop_tw, List.drop_drop]
  have h2 : s.data.toList.drop k = 35 :: s.data.toList.drop (k + 1) := by
    rw [List.drop_eq_getElem_cons (show k < s.data.toList.length from hk)]; congr 1
  rw [e, h2, List.dropWhile_cons, if_pos (by decide)]
  rw [h2, Tk.lexW_note] at h1
  exact h1
theorem LexAt.bad {w wr : World} {s : ByteArray} {R : Nat × List Tk.Tok} {k line : Nat} {fr : Bool} {out : List Tk.Tok} {v : Value} (h : LexAt w s R k line fr out v wr) (hk : k < s.size) (h1 : s[k] ≠ 10) (h2 : s[k] ≠ 32) (h3 : s[k] ≠ 9) (h4 : s[k] ≠ 35)
    (ho : Tk.one denM (s.data.toList.drop k) = none) : R = (line, []) := by
  have h5 := h.1
  rw [drop_at s k hk] at h5 ho
  rw [Tk.lexW_bad denM _ _ _ _ h1 h2 h3 h4 ho] at h5
  exact h5.symm
theorem LexAt.tok {w wr w1 : World} {s : ByteArray} {R : Nat × List Tk.Tok} {k line : Nat} {fr : Bool} {out : List Tk.Tok} {v v1 : Value} (h : LexAt w s R k line fr out v wr) (hk : k < s.size) (h1 : s[k] ≠ 10) (h2 : s[k] ≠ 32) (h3 : s[k] ≠ 9) (h4 : s[k] ≠ 35)
    {kd n : Nat} {t : List UInt8} (ho : Tk.one denM (s.data.toList.drop k) = some (kd, t, n)) (hs : (Tk.semi out fr kd t).length ≤ 1)
    (hown : OwnT w1 w.heap.size v1 ((out ++ Tk.semi out fr kd t ++ [(kd, t, line)]).map toB)) (hb : Below w.heap.size w w1) : LexAt w s R (k + n) line false (out ++ Tk.semi out fr kd t ++ [(kd, t, line)]) v1 w1 := by
  have hp := Tk.one_pos ho
  have h5 := h.1
  rw [drop_at s k hk] at h5 ho
  rw [Tk.lexW_tok denM _ _ _ _ h1 h2 h3 h4 ho, ← drop_at s k hk, List.drop_drop] at h5
  refine ⟨h5, by have := h.2.1; omega, ?_, hown, hb⟩
  have := h.2.2.1
  rw [List.length_append, List.length_append]; simp; omega
theorem semi_cases (out : List Tk.Tok) (fr : Bool) (kd : Nat) (t : List UInt8) :
    (fr = false ∧ Tk.semi out fr kd t = []) ∨ (fr = true ∧ out = [] ∧ Tk.semi out fr kd t = []) ∨ ∃ l0 x, out = l0 ++ [x] ∧ fr = true ∧
      ((Tk.ends x.1 x.2.1 = false ∧ Tk.semi out fr kd t = []) ∨ (Tk.ends x.1 x.2.1 = true ∧ Tk.begins kd t = false ∧ Tk.semi out fr kd t = []) ∨ (Tk.ends x.1 x.2.1 = true ∧ Tk.begins kd t = true ∧ Tk.semi out fr kd t = [(7, [59], x.2.2)])) := by
  unfold Tk.semi
  cases fr
  · left
    refine ⟨rfl, ?_⟩
    cases out.getLast? <;> rfl
  · right
    rcases List.eq_nil_or_concat out with rfl | ⟨l0, x, rfl⟩
    · left; exact ⟨rfl, rfl, rfl⟩
    · right
      refine ⟨l0, x, by simp, rfl, ?_⟩
      rw [List.concat_eq_append, List.getLast?_concat]
      simp only [Bool.true_and]
      cases Tk.ends x.1 x.2.1
      · left; exact ⟨rfl, rfl⟩
      · right
        cases Tk.begins kd t
        · left; exact ⟨rfl, rfl, rfl⟩
        · right; exact ⟨rfl, rfl, rfl⟩
theorem semi_le (out : List Tk.Tok) (fr : Bool) (kd : Nat) (t : List UInt8) : (Tk.semi out fr kd t).length ≤ 1 := by
  rcases semi_cases out fr kd t with ⟨_, h⟩ | ⟨_, _, h⟩ | ⟨_, _, _, _, ⟨_, h⟩ | ⟨_, _, h⟩ | ⟨_, _, h⟩⟩ <;> rw [h] <;> simp
theorem endL_le {d : UInt8} : ∀ (N : Nat) (l : List UInt8) (n : Nat), l.length ≤ N → Lt.endL d l = some n → n ≤ l.length := by
  intro N
  induction N with
  | zero =>
    intro l n hl h
    rw [List.length_eq_zero_iff.1 (Nat.le_zero.1 hl)] at h; cases h
  | succ N ih =>
    intro l n hl h
    match l with
    | [] => cases h
    | b :: r =>
      rw [Lt.endL.eq_def] at h
      dsimp only at h
      rw [List.length_cons] at hl ⊢
      split at h
      · cases h; omega
      · split at h
        · cases h
        · split at h
          · split at h
            · cases h
            · rename_i c r2
              cases h2 : Lt.endL d r2 with
              | none => rw [h2] at h; cases h
              | some m =>
                rw [h2] at h; simp at h
                rw [List.length_cons] at hl ⊢
                have := ih r2 m (by omega) h2
                omega
          · cases h2 : Lt.endL d r with
            | none => rw [h2] at h; cases h
            | some m =>
              rw [h2] at h; simp at h
              have := ih r m (by omega) h2
              omega
theorem tw_len (p : UInt8 → Bool) (r : List UInt8) : (r.takeWhile p).length ≤ r.length := (List.takeWhile_sublist p).length_le
theorem one_le {D : Tk.Den} {R t : List UInt8} {k n : Nat} (h : Tk.one D R = some (k, t, n)) : n ≤ R.length := by
  match R with
  | [] => cases h
  | b :: r =>
    have t1 := tw_len Tk.idb r
    have t2 := tw_len Tk.letter r
    rw [List.length_cons]
    simp only [Tk.one] at h
    split at h
    · split at h
      · cases h; omega
      · split at h
        · cases h; omega
        · cases h
    · split at h
      · cases hi : D.int (b :: r.takeWhile Tk.idb) with
        | none => rw [hi] at h; cases h
        | some x => rw [hi] at h; cases h; omega
      · split at h
        · cases he : Lt.endL 34 r with
          | none => rw [he] at h; cases h
          | some m =>
            rw [he] at h
            have := endL_le _ r m (Nat.le_refl _) he
            cases hs : D.str (b :: r.take m) with
            | none => simp [hs] at h
            | some x => simp [hs] at h; omega
        · split at h
          · cases he : Lt.endL 39 r with
            | none => rw [he] at h; cases h
            | some m =>
              rw [he] at h
              have := endL_le _ r m (Nat.le_refl _) he
              cases hs : D.set (b :: r.take m) with
              | none => simp [hs] at h
              | some x => simp [hs] at h; omega
          · split at h
            · split at h
              · cases h; omega
              · cases h
            · cases hf : Tk.operators.find? fun o => o.isPrefixOf (b :: r) with
              | none => rw [hf] at h; cases h
              | some o =>
                rw [hf] at h; cases h
                have h2 := List.find?_some hf
                have h3 := (List.isPrefixOf_iff_prefix.1 h2).length_le
                rw [List.length_cons] at h3; exact h3
theorem new_tok2 (w : World) (n : Nat) (hn : w.heap.size = n) (a b c : Value) (t : TypeId) : ∀ (j : Nat) (u : Value), [a, b, c][j]? = some u → (w.alloc (.cells #[a, b, c] t)).cell? ((⟨n, 0, none⟩ : Addr).add j) = some u := by
  subst hn; exact new_tok w a b c t
theorem FreeTok.grown {w w1 : World} {b : Nat} {k l : Int} {t : ByteArray} {row : Option Nat} (h : FreeTok w b k t l) (hg : w.grownBy w1 row) (hne : some b ≠ row) : w1.cell? ⟨b, 0, none⟩ = some (.int .i64 k) ∧ w1.cell? ⟨b, 1, none⟩ = some (.string t) ∧ w1.cell? ⟨b, 2, none⟩ = some (.int .i64 l) :=
  ⟨hg.cell h.1.1 hne, hg.cell h.1.2.1 hne, hg.cell h.1.2.2 hne⟩
theorem own_last {w : World} {b n : Nat} {v : Value} {xs : List Value} (l : List Tk.Tok) (x : Tk.Tok) (h : w.ownsRow b 31 3 v n xs) (hn : n = l.length + 1) (hxs : xs = tokCells (l.map toB) ++ [.int .i64 (x.1 : Int), .string (str8 x.2.1), .int .i64 (x.2.2 : Int)]) : OwnT w b v ((l ++ [x]).map toB) := by
  subst hn; subst hxs
  rw [List.map_append]
  refine ownT_app (x := toB x) ?_
  rw [List.length_map]; exact h
theorem last_cell {w : World} {b g n cap : Nat} {l0 : List Tk.Tok} {x : Tk.Tok} (hn : n = l0.length + 1) (h : OwnT w b (.slice (some ⟨g, 0, none⟩) n cap) ((l0 ++ [x]).map toB)) :
    w.cell? ⟨g, l0.length * 3, none⟩ = some (.int .i64 (x.1 : Int)) ∧ w.cell? ⟨g, l0.length * 3 + 1, none⟩ = some (.string (str8 x.2.1)) ∧ w.cell? ⟨g, l0.length * 3 + 2, none⟩ = some (.int .i64 (x.2.2 : Int)) := by
  obtain ⟨⟨a, b, c⟩, _⟩ := ownT_cell (by simp; exact hn) h l0.length (by simp)
  have e : ((l0 ++ [x]).map toB)[l0.length]'(by simp) = toB x := by simp
  rw [e] at a b c
  exact ⟨a, b, c⟩
end Go.Proofs.YtfhakailbikjkaaGreatDoor
