import Derived.Test.YtogplagiheoaiaaG04Chb
namespace Go.Proofs.Ytogplagiheoaiaa
open Go.RowKit Go.Shelf
set_option maxRecDepth 20000
set_option linter.unusedVariables false

def onlyOn (I : World → Prop) : Exit → Act → World → Prop
  | .normal, _, W => I W
  | _, _, _ => False

theorem wp_chunk {g : Operand} {ps : Array Tmp} {assign body : Code} {Q : Exit → Act → World → Prop} {a : Act} {w : World} (b o N c B1 B2 : Nat) (ao : Option Addr) (hg : a.eval g = .func (.func 17) #[] #[.pointer (some ⟨B1, 0, none⟩), .pointer (some ⟨B2, 0, none⟩)]) (hps : ps.size = 1)
    (hN : N ≤ 140737488351232) (hc : N ≤ c ∧ c ≤ 9223372036854775807) (hao : 0 < N → ao = some ⟨b, o, none⟩) (T : Nat → Obj → World → Prop) (rT : ∀ k, H4.Rec (w.heap.size + 1) (T k))
    (hT : ∀ k o W, T k o W → W.cell? ⟨B1, 0, none⟩ = some (.slice ao N c) ∧ W.cell? ⟨B2, 0, none⟩ = some (.int .i64 5552)) (hdr : ∀ k o W n, T k o W → T k o (W.drewN n))
    (h0 : ∀ o, T 0 o ((w.alloc (.deferred (some []))).alloc o))
    (act : Value → Act)
    (hassign : ∀ (x : Value) (W : World) (K : Act → World → Prop), K (act x) W → assign.wpIn (Fence.wide.inRound (w.heap.size + 1)) 1 Try.prog (Exit.then K (fun _ _ _ => False)) { tmps := (ps.zip #[x]).foldl (fun t (p, v) => t.setIfInBounds p v) a.tmps, defers := [] } W)
    (hbody : ∀ k o' W, 5552 * k < N → T k o' W → body.wpIn (Fence.wide.inRound (w.heap.size + 1)) 1 Try.prog (onlyOn (T (k + 1) o')) (act (unt b o N k)) W)
    (hdone : ∀ k o W, N ≤ 5552 * k → T k o W → Q .normal { a with defers := { target := .collected w.heap.size, args := #[] } :: a.defers } W) :
    (Code.rangeFunc g ps assign body).wpIn Fence.wide 3 Try.prog Q a w := by
  refine wp_range3 (α := Nat) (σ := Nat) (fun m m' => m' = m + 1) 0 rfl (by decide) hg trivial (enters_of Try.func17 (by kernel_rfl) rfl) (encs := fun k => #[unt b o N k]) (fun _ => by rw [hps]; rfl)
    T (fun m x o W => x = m ∧ 5552 * m < N ∧ T m o W) (fun o W => ∃ k, N ≤ 5552 * k ∧ T k o W) (fun _ _ _ => False)
    rT (fun m x => ⟨fun o W h => (rT m).get o W h.2.2, fun o o' W h => ⟨h.1, h.2.1, (rT m).put o o' W h.2.2⟩⟩) ⟨fun o W ⟨k, _, h⟩ => (rT k).get o W h, fun o o' W ⟨k, e, h⟩ => ⟨k, e, (rT k).put o o' W h⟩⟩ (fun _ => ⟨fun _ _ h => h.elim, fun _ _ _ h => h.elim⟩) h0 ?_
    (fun m x b' o' W => b' = act (unt b o N x) ∧ x = m ∧ 5552 * m < N ∧ T m o' W) (fun m x b => ⟨fun o W h => (rT m).get o W h.2.2.2, fun o o' W h => ⟨h.1, h.2.1, h.2.2.1, (rT m).put o o' W h.2.2.2⟩⟩) ?_ ?_ ?_ (fun c o V h => h.elim)
  · intro o' Jx hY W hW
    refine chunk_in _ B1 B2 b o N c ao hN hc (fun k W => T k o' W) (fun k W => 5552 * k < N ∧ T k o' W) (fun W => ∃ k, N ≤ 5552 * k ∧ T k o' W) Jx (fun k W hk => ?_) (fun k W hk => hY k k W ⟨rfl, hk⟩) W hW Fence.wide rfl
    obtain ⟨e1, e2⟩ := hT k o' W hk
    exact ⟨e1, e2, fun h => ⟨k, h, hk⟩, fun h => ⟨hao (by omega), fun n => ⟨h, hdr k o' W n hk⟩⟩⟩
  · intro m x o' W K hz hK
    exact hassign _ W K (hK _ _ ⟨rfl, hz⟩)
  · rintro m x b' o' W ⟨rfl, rfl, hm, hI⟩
    refine wpIn_mono (hbody x o' W hm hI) ?_
    rintro e a3 W3 hp
    cases e with
    | normal => exact ⟨x + 1, rfl, hp⟩
    | ret => exact hp.elim
    | exit id => exact hp.elim
    | goto t => exact hp.elim
    | panic ch => exact hp.elim
    | outgrown => exact hp.elim
  · rintro o' W ⟨k, hk, hI⟩
    exact hdone k o' W hk hI
end Go.Proofs.Ytogplagiheoaiaa

