/- A range over a function whose body never leaves, its rounds told by one relation. No conditions. -/
import Derived.Test.YtkhcbahbffjnkaaDoorN2
namespace Go.Proofs.YtkhcbahbffjnkaaDoor
open Go.RowKit Go.Shelf
set_option linter.unusedVariables false

variable {F : Fence} {n : Nat} {P : Program}
theorem range_all {X : Type} {g : Operand} {ps : Array Tmp} {assign body : Go.Code} {Q : Exit → Act → World → Prop} {a : Act} {w : World}
    (hro : F.round = none) (h1 : 1 ≤ n) {gf : Nat} {lb : Array Value} (hg : a.eval g = .func (.func gf) #[] lb) (hFg : F.fn gf) (eg : ∀ args w, (callFunc gf args).run P w = .ok (.enter gf args) w)
    {encs : X → Array Value} (hps : ∀ x, (encs x).size = ps.size) (Pre : X → World → Prop) (Rel : X → World → World → Prop) (Done : World → World → Prop)
    (hPre : ∀ x W o, Pre x W → Pre x (W.putObj (w.heap.size + 1) o))
    (hRel : ∀ x W W3 o o', W.heap[w.heap.size + 1]? = some o → Pre x W → Rel x (W.putObj (w.heap.size + 1) o') W3 → Rel x W (W3.putObj (w.heap.size + 1) o))
    (hKeep : ∀ x W W3 (o : Obj), Pre x W → Rel x W W3 → W.heap[w.heap.size + 1]? = some o → o.isCells = false → W3.heap[w.heap.size + 1]? = some o)
    (a₁ : X → Act)
    (hassign : ∀ (x : X) (W : World) (K : Act → World → Prop), K (a₁ x) W →
      assign.wpIn (F.inRound (w.heap.size + 1)) (n - 1 - 1) P (Exit.then K (fun _ _ _ => False)) { tmps := (ps.zip (encs x)).foldl (fun t (p, v) => t.setIfInBounds p v) a.tmps, defers := [] } W)
    (hbody : ∀ (x : X) (W : World), Pre x W → body.wpIn (F.inRound (w.heap.size + 1)) (n - 1 - 1) P (fun e _ W' => e = .normal ∧ Rel x W W') (a₁ x) W)
    (hcall : ∀ (o : Obj), o.isCells = false → (∀ x W, Pre x W → W.heap[w.heap.size + 1]? = some o → YieldAt F (n - 1 - 1) P (w.heap.size + 1) (encs x) W fun e W' => e = .returned (.bool true) ∧ Rel x W W') →
      CallsIn F (n - 1) P gf (#[.func (.yield (w.heap.size + 1)) #[] #[]] ++ lb) ((w.alloc (.deferred (some []))).alloc o) fun e W2 => (∃ v, e = .returned v) ∧ Done ((w.alloc (.deferred (some []))).alloc o) W2 ∧ W2.heap[w.heap.size + 1]? = some o)
    (hdone : ∀ (o o' : Obj) (W2 : World), Done ((w.alloc (.deferred (some []))).alloc o) W2 → W2.heap[w.heap.size + 1]? = some o → Q .normal { a with defers := { target := .collected w.heap.size, args := #[] } :: a.defers } (W2.putObj (w.heap.size + 1) o')) :
    (Go.Code.rangeFunc g ps assign body).wpIn F n P Q a w := by
  refine wpIn_rangeFunc fun fn hfn => ?_
  rw [hro]
  obtain ⟨rec, hrec⟩ : ∃ rec : LoopState → Option Go.Code → Loop, rec = fun st pe => { state := st, pending := pe, fn, tmps := a.tmps, params := ps, assign, body, defers := w.heap.size } := ⟨_, rfl⟩
  have hc := hcall (.loop (rec .ready none)) rfl (fun x W hp hl => by
    have hlt : w.heap.size + 1 < W.heap.size := (Array.getElem?_eq_some_iff.1 hl).1
    have hy := run_yield (P := P) (args := encs x) hl (by rw [hrec]; exact hps x)
    rw [hrec] at hy
    refine ⟨fn, _, assign, body, hy, roundIn_of_wpIn hfn (hassign x W _ ⟨_, run_beginRound hl (by rw [hrec]), ?_⟩)⟩
    refine wpIn_mono (hbody x _ (hPre x W _ hp)) ?_
    rintro e a3 W3 ⟨rfl, hr⟩
    have hl2 : (W.putObj (w.heap.size + 1) (.loop { rec .ready none with state := .busy })).heap[w.heap.size + 1]? = some (.loop { rec .ready none with state := .busy }) := World.putObj_heap_same hlt
    have hl3 := hKeep x _ W3 _ (hPre x W _ hp) hr hl2 rfl
    have he := run_endRound (P := P) none hl3
    refine ⟨_, _, he, rfl, ?_⟩
    have e2 : (Obj.loop { ({ rec .ready none with state := .busy } : Loop) with state := if (none : Option Go.Code).isNone then .ready else .done, pending := none }) = Obj.loop (rec .ready none) := by rw [hrec]; rfl
    rw [e2]
    exact hRel x W W3 _ _ hl hp hr)
  refine ⟨w.heap.size + 1, [{ target := .collected w.heap.size, args := #[] }], (w.alloc (.deferred (some []))).alloc (.loop (rec .ready none)), { target := .fn (.func gf) lb, args := #[.func (.yield (w.heap.size + 1)) #[] #[]] }, (w.alloc (.deferred (some []))).alloc (.loop (rec .ready none)), gf,
    #[.func (.yield (w.heap.size + 1)) #[] #[]] ++ lb, (w.alloc (.deferred (some []))).alloc (.loop (rec .ready none)), ?_, ?_, ?_, ?_, fun _ => h1, ?_⟩
  · rw [hrec]; exact run_enterLoop_outer _ _ _ _ _
  · simp only [resolve, hg]
    simp [go_sem]
  · intro f' hf'; simp [Target.leads] at hf'; subst hf'; exact hFg
  · simp [invoke, go_sem, eg]
  · refine hc.mono ?_
    rintro e W2 ⟨⟨v, rfl⟩, hd, hl⟩
    exact ⟨none, _, by have := run_endLoop (P := P) hl (by rw [hrec]; simp); rw [hrec] at this; exact this, hdone _ _ W2 hd hl⟩
end Go.Proofs.YtkhcbahbffjnkaaDoor
