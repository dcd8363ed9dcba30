import Derived.Test.YtogplagiheoaiaaG02Rg6
namespace Go.Proofs.Ytogplagiheoaiaa
open Go.RowKit
variable {F : Fence} {n : Nat} {P : Program}

def roundEnd3 {σ : Type} (R : σ → σ → Prop) (I : σ → Obj → World → Prop) (Ix : Code → Obj → World → Prop) (m : σ) (o : Obj) : Exit → Act → World → Prop
  | .normal, _, W => ∃ m', R m m' ∧ I m' o W
  | .ret, _, W => Ix .ret o W
  | .exit id, _, W => Ix (.exit id) o W
  | .goto t, _, W => Ix (.goto t) o W
  | .panic _, _, _ => False
  | .outgrown, _, _ => False

theorem wp_range3 {α σ : Type} (R : σ → σ → Prop) {g : Operand} {ps : Array Tmp} {assign body : Code} {Q : Exit → Act → World → Prop} {a : Act} {w : World} (m0 : σ)
    (hro : F.round = none) (h1 : 1 ≤ n) {gf : Nat} {lb : Array Value} (hg : a.eval g = .func (.func gf) #[] lb) (hFg : F.fn gf) (eg : ∀ args w, (callFunc gf args).run P w = .ok (.enter gf args) w)
    {encs : α → Array Value} (hps : ∀ x, (encs x).size = ps.size)
    (I : σ → Obj → World → Prop) (Iy : σ → α → Obj → World → Prop) (Ie : Obj → World → Prop) (Ix : Code → Obj → World → Prop)
    (rI : ∀ m, H4.Rec (w.heap.size + 1) (I m)) (ry : ∀ m x, H4.Rec (w.heap.size + 1) (Iy m x)) (re : H4.Rec (w.heap.size + 1) Ie) (rx : ∀ c, H4.Rec (w.heap.size + 1) (Ix c))
    (h0 : ∀ o, I m0 o ((w.alloc (.deferred (some []))).alloc o))
    (hseq : ∀ (o : Obj) (Jx : World → Prop), (∀ m x W, Iy m x o W → YieldAt F (n - 1 - 1) P (w.heap.size + 1) (encs x) W fun e W' => (e = .returned (.bool true) ∧ ∃ m', R m m' ∧ I m' o W') ∨ (e = .returned (.bool false) ∧ Jx W')) →
      ∀ W, I m0 o W → CallsIn F (n - 1) P gf (#[.func (.yield (w.heap.size + 1)) #[] #[]] ++ lb) W fun e W' => (∃ v, e = .returned v) ∧ (Ie o W' ∨ Jx W'))
    (Iz : σ → α → Act → Obj → World → Prop) (rz : ∀ m x b, H4.Rec (w.heap.size + 1) (Iz m x b))
    (hassign : ∀ m (x : α) o (W : World) (K : Act → World → Prop), Iy m x o W → (∀ b W', Iz m x b o W' → K b W') →
      assign.wpIn (F.inRound (w.heap.size + 1)) (n - 1 - 1) P (Exit.then K (fun _ _ _ => False)) { tmps := (ps.zip (encs x)).foldl (fun t (p, v) => t.setIfInBounds p v) a.tmps, defers := [] } W)
    (hbody : ∀ m x b o W, Iz m x b o W → body.wpIn (F.inRound (w.heap.size + 1)) (n - 1 - 1) P (roundEnd3 R I Ix m o) b W)
    (hdone : ∀ o W, Ie o W → Q .normal { a with defers := { target := .collected w.heap.size, args := #[] } :: a.defers } W)
    (hstop : ∀ c o W, Ix c o W → c.wpIn F n P Q { a with defers := { target := .collected w.heap.size, args := #[] } :: a.defers } W) :
    (Code.rangeFunc g ps assign body).wpIn F n P Q a w := by
  refine wpIn_rangeFunc ?_
  intro fn hfn
  rw [hro]
  obtain ⟨rec, hrec⟩ : ∃ rec : LoopState → Option Code → Loop, rec = fun st pe => { state := st, pending := pe, fn, tmps := a.tmps, params := ps, assign, body, defers := w.heap.size } := ⟨_, rfl⟩
  obtain ⟨W1, hW1⟩ : ∃ W1, (w.alloc (.deferred (some []))).alloc (.loop (rec .ready none)) = W1 := ⟨_, rfl⟩
  have hI1 : I m0 (.loop (rec .ready none)) W1 := by rw [← hW1]; exact h0 _
  refine ⟨w.heap.size + 1, [{ target := .collected w.heap.size, args := #[] }], W1, { target := .fn (.func gf) lb, args := #[.func (.yield (w.heap.size + 1)) #[] #[]] }, W1, gf,
    #[.func (.yield (w.heap.size + 1)) #[] #[]] ++ lb, W1, ?_, ?_, ?_, ?_, fun _ => h1, ?_⟩
  · rw [← hW1, hrec]; exact run_enterLoop_outer _ _ _ _ _
  · simp only [resolve, hg]
    simp [go_sem]
  · intro f' hf'; simp [Target.leads] at hf'; subst hf'; exact hFg
  · simp [invoke, go_sem, eg]
  · refine (hseq (.loop (rec .ready none)) (fun W => ∃ c, Ix c (.loop (rec .done (some c))) W) ?_ W1 hI1).mono ?_
    · rintro m x W hi
      have hl := (ry m x).get _ _ hi
      have hlt : w.heap.size + 1 < W.heap.size := (Array.getElem?_eq_some_iff.1 hl).1
      have hy := run_yield (P := P) (args := encs x) hl (by rw [hrec]; exact hps x)
      rw [hrec] at hy
      refine ⟨fn, _, assign, body, hy, roundIn_of_wpIn hfn (hassign m x _ W _ hi ?_)⟩
      intro b W' hz
      refine ⟨_, run_beginRound ((rz m x b).get _ _ hz) (by rw [hrec]), ?_⟩
      refine wpIn_mono (hbody m x b (.loop { rec .ready none with state := .busy }) _ ((rz m x b).put _ _ _ hz)) ?_
      have fin : ∀ (jump : Option Code) (W3 : World), W3.heap[w.heap.size + 1]? = some (.loop { rec .ready none with state := .busy }) →
          (Instr.endRound (w.heap.size + 1) jump).run P W3 = .ok (.bool jump.isNone) (W3.putObj (w.heap.size + 1) (.loop (rec (if jump.isNone then .ready else .done) jump))) := fun jump W3 hl3 => by
        have := run_endRound (P := P) jump hl3
        rw [hrec] at this ⊢
        exact this
      rintro e a3 W3 hp
      cases e with
      | normal =>
        obtain ⟨m', hm', hi3⟩ := hp
        exact ⟨_, _, fin none W3 ((rI m').get _ _ hi3), .inl ⟨rfl, m', hm', (rI m').put _ _ _ hi3⟩⟩
      | ret => exact ⟨_, _, fin (some .ret) W3 ((rx _).get _ _ hp), .inr ⟨rfl, .ret, (rx _).put _ _ _ hp⟩⟩
      | exit id => exact ⟨_, _, fin (some (.exit id)) W3 ((rx _).get _ _ hp), .inr ⟨rfl, .exit id, (rx _).put _ _ _ hp⟩⟩
      | goto t => exact ⟨_, _, fin (some (.goto t)) W3 ((rx _).get _ _ hp), .inr ⟨rfl, .goto t, (rx _).put _ _ _ hp⟩⟩
      | panic ch => exact hp.elim
      | outgrown => exact hp.elim
    · rintro e W2 ⟨⟨v, rfl⟩, (hi | ⟨c, hi⟩)⟩
      · exact ⟨none, _, by have := run_endLoop (P := P) (re.get _ _ hi) (by rw [hrec]; simp); rw [hrec] at this; exact this, hdone _ _ (re.put _ _ _ hi)⟩
      · exact ⟨some c, _, by have := run_endLoop (P := P) ((rx c).get _ _ hi) (by rw [hrec]; simp); rw [hrec] at this; exact this, hstop c _ _ ((rx c).put _ _ _ hi)⟩

end Go.Proofs.Ytogplagiheoaiaa

