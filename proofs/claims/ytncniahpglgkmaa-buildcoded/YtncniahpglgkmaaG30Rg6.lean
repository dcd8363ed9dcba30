import Derived.Test.YtncniahpglgkmaaG29Prw
import Derived.Test.YtncniahpglgkmaaG07QHops
import Derived.Shelf.Abstract
import Derived.Shelf.RegionOpen
import Derived.OwnWalkIn
import Derived.TacticsInMore
import Derived.LoopNIn
import Derived.LoopIn
namespace Go.Proofs.Ytncniahpglgkmaa
open Go.RowKit Go.Maps
set_option maxRecDepth 20000
set_option linter.unusedVariables false

/-- The rows of coins. -/
def crw (ws : List Nat) : Nat → List (Nat × Bool)
  | 0 => cmr ws []
  | k + 1 => cmr ws (pks (wts (crw ws k)))

theorem crw_row (ws : List Nat) (k : Nat) : wts (crw ws k) = row ws (k + 1) := by
  induction k with
  | zero => unfold wts crw; rw [cmr_fst]; rfl
  | succ k ih =>
    have e : crw ws (k + 1) = cmr ws (pks (row ws (k + 1))) := by show cmr ws (pks (wts (crw ws k))) = _; rw [ih]
    rw [e]
    unfold wts
    rw [cmr_fst]
    rfl

theorem crw_len (ws : List Nat) (k : Nat) : (crw ws k).length ≤ 2 * ws.length := by
  induction k with
  | zero => show (cmr ws []).length ≤ _; rw [cmr_len]; simp; omega
  | succ k ih =>
    show (cmr ws (pks (wts (crw ws k)))).length ≤ _
    rw [cmr_len, pks_len]
    have : (wts (crw ws k)).length = (crw ws k).length := by simp [wts]
    omega

theorem crw_le (ws : List Nat) (b : Nat) (h : ∀ x ∈ ws, x ≤ b) (k : Nat) : ∀ x ∈ wts (crw ws k), x ≤ b * 2 ^ k := by
  induction k with
  | zero =>
    intro x hx
    rw [crw_row] at hx
    rcases mrg_mem hx with q | q
    · have := h x q; omega
    · simp [row, pks] at q
  | succ k ih =>
    intro x hx
    rw [crw_row] at hx
    have hp : b * 2 ^ (k + 1) = b * 2 ^ k * 2 := by rw [Nat.pow_succ, Nat.mul_assoc]
    have h1 : b ≤ b * 2 ^ k := Nat.le_mul_of_pos_right _ (Nat.two_pow_pos k)
    rcases mrg_mem hx with q | q
    · have := h x q; omega
    · obtain ⟨a, c, ha, hc, rfl⟩ := pks_mem q
      rw [← crw_row] at ha hc
      have := ih a ha
      have := ih c hc
      omega

/-- A list of rows in memory. -/
structure ORs (w : World) (base : Nat) (v : Value) (ws : List Nat) (K : Nat) : Prop where
  ex : ∃ vals : List Value, vals.length = K ∧ w.ownsRow base 64 1 v K vals ∧ ∀ k, k < K → OC w 0 (vals.getD k undef) (crw ws k)

theorem row_lt' {w : World} {base : Nat} {e : TypeId} {size : Nat} {v : Value} {n : Nat} {xs : List Value} (h : w.ownsRow base e size v n xs) : ∀ k, v.ownBlock = some k → base ≤ k ∧ k < w.heap.size := World.ownsRow.lt h

theorem row_move' {w w' : World} {base : Nat} {e : TypeId} {size : Nat} {v : Value} {n : Nat} {xs : List Value} (h : w.ownsRow base e size v n xs) (hb : ∀ k, v.ownBlock = some k → w'.heap[k]? = w.heap[k]?) : w'.ownsRow base e size v n xs := by
  refine ⟨h.1, ?_⟩
  rcases h.2 with h2 | ⟨g, cap, cur, rfl, h1, h2, r⟩
  · exact .inl h2
  · exact .inr ⟨g, cap, cur, rfl, h1, (hb g rfl).trans h2, r⟩

theorem ORs.below {w w' : World} {base B : Nat} {v : Value} {ws : List Nat} {K : Nat} (h : ORs w base v ws K) (hb : Below B w w') (hB : w.heap.size ≤ B) : ORs w' base v ws K := by
  obtain ⟨vals, h1, h2, h3⟩ := h.ex
  exact ⟨vals, h1, row_move' h2 fun k hk => hb.block k (Nat.lt_of_lt_of_le (row_lt' h2 k hk).2 hB), fun k hk => (h3 k hk).below hb hB⟩

/-- A row of coins and a list of rows lie in blocks of their own. -/
theorem oc_apart {w : World} {b0 base : Nat} {v u : Value} {R : List (Nat × Bool)} {n : Nat} {xs : List Value} (h : OC w b0 v R) (h2 : w.ownsRow base 64 1 u n xs) : ∀ k, v.ownBlock = some k → u.ownBlock ≠ some k := by
  intro k hk he
  rcases h.2 with ⟨rfl, _⟩ | ⟨g, cap, cur, rfl, _, hg, _⟩
  · simp [Value.ownBlock] at hk
  · rcases h2.2 with ⟨rfl, _⟩ | ⟨g', cap', cur', rfl, _, hg', _⟩
    · simp [Value.ownBlock] at he
    · simp only [Value.ownBlock, Option.some.injEq] at hk he
      rw [hk] at hg
      rw [he] at hg'
      rw [hg] at hg'
      simp at hg'

theorem infoCoins : (Try.prog.info? 64).map (fun i => (i.zero, i.size, i.bytes)) = some (some (.slice none 0 0), 1, 24) := by kernel_rfl

theorem ors_snoc {w w' : World} {base : Nat} {v v' u : Value} {ws : List Nat} {K : Nat} {vals : List Value} (h1 : vals.length = K) (h2 : w.ownsRow base 64 1 v K vals) (h3 : ∀ k, k < K → OC w 0 (vals.getD k undef) (crw ws k)) (hu : OC w 0 u (crw ws K))
    (hn : w'.ownsRow base 64 1 v' (K + 1) (vals ++ [u])) (hg : w.grownBy w' v.ownBlock) : ORs w' base v' ws (K + 1) := by
  have mv : ∀ {x : Value} {R : List (Nat × Bool)}, OC w 0 x R → OC w' 0 x R := fun {x R} hx => hx.move fun k hk => hg.block k (hx.lt k hk).2 (fun e => oc_apart hx h2 k hk e.symm)
  refine ⟨vals ++ [u], by simp [h1], hn, fun k hk => ?_⟩
  by_cases e : k = K
  · subst e
    have : (vals ++ [u]).getD k undef = u := by rw [← h1]; simp [List.getD]
    rw [this]
    exact mv hu
  · have : (vals ++ [u]).getD k undef = vals.getD k undef := by
      rw [List.getD_eq_getElem?_getD, List.getElem?_append_left (by omega), ← List.getD_eq_getElem?_getD]
    rw [this]
    exact mv (h3 k (by omega))
theorem OC.one {w : World} {b0 : Nat} {v : Value} {R : List (Nat × Bool)} (h : OC w b0 v R) : v.oneCell' = true := by
  obtain ⟨a, c, rfl, _⟩ := h.shape
  rfl

/-- One more row. -/
theorem wpRowC {w : World} {ops : Array Oper} {rest : List Oper} {o : Oper} {a : Act} {Q : Exit → Act → World → Prop} (hgd : o.guard = none) (s x : Operand)
    (ho : o.op = .call { callee := .builtin .append, args := #[s, x], argTypes := #[63, 63] }) (base : Nat) (v u : Value) (ws : List Nat) (K : Nat) (hown : ORs w base v ws K) (hu : OC w 0 u (crw ws K)) (hs : a.eval s = v)
    (c : Nat) (hx : a.eval x = .slice (some ⟨w.heap.size, 0, none⟩) 1 c) (hn : K ≤ 1000) (hbase : base ≤ w.heap.size)
    (h : ∀ v' w', ORs w' base v' ws (K + 1) → (w.alloc (.cells #[u] 64)).grownBy w' v.ownBlock → wpList Try.prog ops Q rest (a.put o.dst v') w') :
    wpList Try.prog ops Q (o :: rest) a (w.alloc (.cells #[u] 64)) := by
  obtain ⟨i0, hi0, hz0, hz1, hz2⟩ := info_parts infoCoins
  obtain ⟨vals, h1, h2, h3⟩ := hown.ex
  have h2a : (w.alloc (.cells #[u] 64)).ownsRow base 64 1 v K vals := row_move' h2 fun k hk => Below.heap_alloc w _ k (row_lt' h2 k hk).2
  refine wpList_append_own_at _ hgd s x 63 ho base 64 i0 _ 1 24 Try.underlying63 hi0 hz0 hz1 hz2 rfl (by omega) v K vals hs h2a ⟨w.heap.size, 0, none⟩ 1 c [u] hx rfl (World.news_of_block (cs := #[u]) (t := 64) (fr := (0, 0)) (heap_alloc_new w _))
    (fun z hz => by rw [List.mem_singleton.1 hz]; exact hu.one) (by unfold maxLen; omega) (by omega) (by simp; omega) fun v' w' q1 q2 _ _ => h v' w' ?_ q2
  exact ors_snoc h1 h2a (fun k hk => (h3 k hk).alloc _) (hu.alloc _) q1 q2

theorem ors_one {w : World} {u : Value} {ws : List Nat} (hu : OC w 0 u (crw ws 0)) : ORs (w.alloc (.cells #[u] 64)) w.heap.size (.slice (some ⟨w.heap.size, 0, none⟩) 1 1) ws 1 := by
  refine ⟨[u], rfl, ⟨rfl, .inr ⟨w.heap.size, 1, #[u], rfl, Nat.le_refl _, heap_alloc_new w _, Nat.le_refl _, by unfold maxLen; omega, rfl, rfl⟩⟩, fun k hk => ?_⟩
  obtain rfl : k = 0 := by omega
  exact hu.alloc _

theorem ORs.shape {w : World} {base : Nat} {v : Value} {ws : List Nat} {K : Nat} (h : ORs w base v ws K) (hK : 0 < K) : ∃ g c, v = .slice (some ⟨g, 0, none⟩) K c ∧ K ≤ c ∧ c ≤ 9223372036854775807 ∧ base ≤ g ∧ g < w.heap.size ∧ ∀ k, k < K → ∃ u, w.cell? ⟨g, k, none⟩ = some u ∧ OC w 0 u (crw ws k) := by
  obtain ⟨vals, h1, h2, h3⟩ := h.ex
  have hc := @World.ownsRow.cells _ _ _ _ _ _ _ h2
  have hlt := row_lt' h2
  rcases h2.2 with ⟨rfl, h0⟩ | ⟨g, cap, cur, rfl, p1, p2, p3, p4, p5⟩
  · omega
  · unfold maxLen at p4
    refine ⟨g, cap, rfl, p3, by omega, p1, (hlt g rfl).2, fun k hk => ⟨vals.getD k undef, ?_, h3 k hk⟩⟩
    have := hc (g := g) rfl k (vals.getD k undef) (by simp [show k < vals.length by omega])
    rwa [Addr.add_lit, Nat.zero_add] at this

set_option maxHeartbeats 1000000 in
theorem rows_any (v : Value) (ws : List Nat) (L : Nat) (w : World) (h : SI w v (ci ws)) (h1 : ws.length ≤ 288) (hL : 1 ≤ L ∧ L ≤ 15) (hw : ∀ x ∈ ws, x ≤ 4294967296) :
    Calls Try.prog 32 #[v, .int .i64 L] w fun e w' => ∃ v', e = .returned v' ∧ ORs w' w.heap.size v' ws L ∧ Below w.heap.size w w' := by
  have HS := hide h
  obtain ⟨ao, cap, rfl, hlc, hcm⟩ := h.open
  have HW := hide hw
  have HM0 := hide (merge_any _ (.slice none 0 0) ws [] w h ⟨none, 0, rfl, by simp [ci], by simp, fun _ => rfl, fun x hx => by cases hx⟩ h1 (by simp))
  clear h hw
  obtain ⟨hL1, hL2⟩ := hL
  go_enter Try.func32, Try.ntmps32
  go_wp2_with fail
  refine HM0.out.mono ?_
  rintro e w1 ⟨v1, rfl, ho1, hb1⟩
  have HO1 : Hid (ORs (w1.alloc (.cells #[v1] 64)) w.heap.size (.slice (some ⟨w1.heap.size, 0, none⟩) 1 1) ws 1) := by
    have := ors_one (ws := ws) (ho1.base (Nat.zero_le _))
    obtain ⟨vals, q1, q2, q3⟩ := this.ex
    refine ⟨vals, q1, ⟨q2.1, ?_⟩, q3⟩
    rcases q2.2 with q | ⟨g, c, cur, he, hb, r⟩
    · exact .inl q
    · exact .inr ⟨g, c, cur, he, Nat.le_trans hb1.size hb, r⟩
  have HB1 : Hid (Below w.heap.size w (w1.alloc (.cells #[v1] 64))) := hb1.alloc hb1.size _
  obtain ⟨a1, c1, hv1, _⟩ := ho1.shape
  subst hv1
  clear ho1 hb1
  go_wp2
  go_loopw [5] (fun va wr => ∃ K : Nat, 1 ≤ K ∧ K ≤ L ∧ Hid (ORs wr w.heap.size va ws K) ∧ Hid (Below w.heap.size w wr)) (fun va _ => match va with | .slice _ n _ => L - n | _ => 0)
  case atStart => exact ⟨1, Nat.le_refl _, hL1, HO1, HB1⟩
  case round =>
    obtain ⟨K, hK1, hKL, HR, HB⟩ := hrel
    obtain ⟨g, c, hv, hkc, hcm2, hg1, hg2, hcells⟩ := HR.out.shape hK1
    subst hv
    by_cases hlt : K < L
    · have hlt' : (K : Int) < (L : Int) := by omega
      obtain ⟨u, hcu, hou⟩ := hcells (K - 1) (by omega)
      obtain ⟨k1, hk1⟩ : ∃ k1, k1 = K - 1 := ⟨_, rfl⟩
      rw [← hk1] at hcu hou
      have e1 : (K : Int) - 1 = (k1 : Int) := by omega
      have hk1L : (k1 : Int) < (K : Int) := by omega
      have hcl := crw_len ws k1
      have HPR := hide (pairs_any u (crw ws k1) wr 0 hou (by omega) (fun x hx => by
        have h2 := crw_le ws 4294967296 HW.out k1 x hx
        have h3 : 2 ^ k1 ≤ 2 ^ 14 := Nat.pow_le_pow_right (by decide) (by omega)
        have h4 : 4294967296 * 2 ^ k1 ≤ 4294967296 * 2 ^ 14 := Nat.mul_le_mul_left _ h3
        omega))
      have HKK : Hid (crw ws K = cmr ws (pks (wts (crw ws k1)))) := by
        show _ = _
        rw [show K = k1 + 1 by omega]
        rfl
      have HPL : Hid ((pks (wts (crw ws k1))).length ≤ 600) := by
        show _ ≤ _
        rw [pks_len]
        have : (wts (crw ws k1)).length = (crw ws k1).length := by simp [wts]
        omega
      obtain ⟨au, cu, hu, _⟩ := hou.shape
      rw [hu] at hcu HPR
      clear hcells hou hu hk1
      go_wp2_with fail
      refine HPR.out.mono ?_
      rintro e w2 ⟨a2, rfl, ho2, hb2⟩
      have HO2 := hide ho2
      have HB2 := hide (HB.out.trans (hb2.mono HB.out.size))
      have HR2 := hide (HR.out.below hb2 (Nat.le_refl _))
      have HMG := hide (merge_any (.slice ao (ci ws).length cap) _ ws (pks (wts (crw ws k1))) w2 (HS.out.below HB2.out) ho2.sb h1 HPL.out)
      rw [← HKK.out] at HMG
      clear ho2 hb2
      go_wp2_with fail
      refine HMG.out.mono ?_
      rintro e w3 ⟨v3, rfl, ho3, hb3⟩
      have HO3 := hide (ho3.base (Nat.zero_le _))
      have HB3 := hide (HB2.out.trans (hb3.mono HB2.out.size))
      have HR3 := hide (HR2.out.below hb3 (Nat.le_refl _))
      obtain ⟨a3, c3, hv3, _⟩ := ho3.shape
      rw [hv3] at HO3 ⊢
      clear ho3 hb3
      have hsz3 := HB3.out.size
      go_wp2_with (at_builtin; refine wpRowC rfl _ _ rfl w.heap.size (.slice (some ⟨g, 0, none⟩) K c) _ ws K HR3.out HO3.out rfl _ rfl (by omega) (by omega) ?_)
      intro v4 w4 hr4 hg4
      have HR4 := hide hr4
      have HB4 : Hid (Below w.heap.size w w4) := (HB3.out.alloc hsz3 _).grown hg4 (by simp; omega) (fun j hj => by simp only [Value.ownBlock, Option.some.injEq] at hj; omega)
      obtain ⟨g4, c4, hv4, _⟩ := hr4.shape (by omega)
      rw [hv4] at HR4 ⊢
      clear hr4 hg4 hv4
      go_wp2
      go_roundw
      case rel => exact ⟨K + 1, by omega, by omega, HR4, HB4⟩
      case measure => simp; omega
    · obtain rfl : K = L := by omega
      have hlt' : ¬ (K : Int) < (K : Int) := by omega
      clear hcells
      go_wp2
      go_ret
      exact ⟨_, rfl, HR.out, HB.out⟩
end Go.Proofs.Ytncniahpglgkmaa

namespace Go.Proofs.Ytncniahpglgkmaa
open Go.RowKit
variable {F : Fence} {n : Nat} {P : Program}

/-- How the body of a round may be left. -/
def roundEnd2 (I : Nat → Obj → World → Prop) (Ix : Code → Obj → World → Prop) (m : Nat) (o : Obj) : Exit → Act → World → Prop
  | .normal, _, W => ∃ m', m' + 1 = m ∧ I m' o W
  | .ret, _, W => Ix .ret o W
  | .exit id, _, W => Ix (.exit id) o W
  | .goto t, _, W => Ix (.goto t) o W
  | .panic _, _, _ => False
  | .outgrown, _, _ => False

/-- A loop over an iterator that may itself write memory, and whose body may write what the iterator reads. -/
theorem wp_range2 {α : Type} {g : Operand} {ps : Array Tmp} {assign body : Code} {Q : Exit → Act → World → Prop} {a : Act} {w : World} (m0 : Nat)
    (hro : F.round = none) (h1 : 1 ≤ n) {gf : Nat} {lb : Array Value} (hg : a.eval g = .func (.func gf) #[] lb) (hFg : F.fn gf) (eg : ∀ args w, (callFunc gf args).run P w = .ok (.enter gf args) w)
    {encs : α → Array Value} (hps : ∀ x, (encs x).size = ps.size)
    (I : Nat → Obj → World → Prop) (Iy : Nat → α → Obj → World → Prop) (Ie : Obj → World → Prop) (Ix : Code → Obj → World → Prop)
    (rI : ∀ m, H4.Rec (w.heap.size + 1) (I m)) (ry : ∀ m x, H4.Rec (w.heap.size + 1) (Iy m x)) (re : H4.Rec (w.heap.size + 1) Ie) (rx : ∀ c, H4.Rec (w.heap.size + 1) (Ix c))
    (h0 : ∀ o, I m0 o ((w.alloc (.deferred (some []))).alloc o))
    (hseq : ∀ (o : Obj) (Jx : World → Prop), (∀ m x W, Iy m x o W → YieldAt F (n - 1 - 1) P (w.heap.size + 1) (encs x) W fun e W' => (e = .returned (.bool true) ∧ ∃ m', m' + 1 = m ∧ I m' o W') ∨ (e = .returned (.bool false) ∧ Jx W')) →
      ∀ W, I m0 o W → CallsIn F (n - 1) P gf (#[.func (.yield (w.heap.size + 1)) #[] #[]] ++ lb) W fun e W' => (∃ v, e = .returned v) ∧ (Ie o W' ∨ Jx W'))
    (a₁ : α → Act)
    (hassign : ∀ (x : α) (W : World) (K : Act → World → Prop), K (a₁ x) W →
      assign.wpIn (F.inRound (w.heap.size + 1)) (n - 1 - 1) P (Exit.then K (fun _ _ _ => False)) { tmps := (ps.zip (encs x)).foldl (fun t (p, v) => t.setIfInBounds p v) a.tmps, defers := [] } W)
    (hbody : ∀ m x o W, Iy m x o W → body.wpIn (F.inRound (w.heap.size + 1)) (n - 1 - 1) P (roundEnd2 I Ix m o) (a₁ x) W)
    (hdone : ∀ o W, Ie o W → Q .normal { a with defers := { target := .collected w.heap.size, args := #[] } :: a.defers } W)
    (hstop : ∀ c o W, Ix c o W → c.wpIn F n P Q { a with defers := { target := .collected w.heap.size, args := #[] } :: a.defers } W) :
    (Code.rangeFunc g ps assign body).wpIn F n P Q a w := by
  refine wpIn_rangeFunc ?_
  intro fn hfn
  rw [hro]
  obtain ⟨rec, hrec⟩ : ∃ rec : LoopState → Option Code → Loop, rec = fun st pe => { state := st, pending := pe, fn, tmps := a.tmps, params := ps, assign, body, defers := w.heap.size } := ⟨_, rfl⟩
  obtain ⟨W1, hW1⟩ : ∃ W1, (w.alloc (.deferred (some []))).alloc (.loop (rec .ready none)) = W1 := ⟨_, rfl⟩
  have hI1 : I m0 (.loop (rec .ready none)) W1 := by rw [← hW1]; exact h0 _
  refine ⟨w.heap.size + 1, [{ target := .collected w.heap.size, args := #[] }], W1, { target := .fn (.func gf) lb, args := #[.func (.yield (w.heap.size + 1)) #[] #[]] }, W1, gf,
    #[.func (.yield (w.heap.size + 1)) #[] #[]] ++ lb, W1, ?_, ?_, ?_, ?_, fun _ => h1, ?_⟩
  · rw [← hW1, hrec]; exact run_enterLoop_outer _ _ _ _ _
  · simp only [resolve, hg]
    simp [go_sem]
  · intro f' hf'; simp [Target.leads] at hf'; subst hf'; exact hFg
  · simp [invoke, go_sem, eg]
  · refine (hseq (.loop (rec .ready none)) (fun W => ∃ c, Ix c (.loop (rec .done (some c))) W) ?_ W1 hI1).mono ?_
    · rintro m x W hi
      have hl := (ry m x).get _ _ hi
      have hlt : w.heap.size + 1 < W.heap.size := (Array.getElem?_eq_some_iff.1 hl).1
      have hy := run_yield (P := P) (args := encs x) hl (by rw [hrec]; exact hps x)
      rw [hrec] at hy
      refine ⟨fn, _, assign, body, hy, roundIn_of_wpIn hfn (hassign x W _ ⟨_, run_beginRound hl (by rw [hrec]), ?_⟩)⟩
      refine wpIn_mono (hbody m x (.loop { rec .ready none with state := .busy }) _ ((ry m x).put _ _ _ hi)) ?_
      have fin : ∀ (jump : Option Code) (W3 : World), W3.heap[w.heap.size + 1]? = some (.loop { rec .ready none with state := .busy }) →
          (Instr.endRound (w.heap.size + 1) jump).run P W3 = .ok (.bool jump.isNone) (W3.putObj (w.heap.size + 1) (.loop (rec (if jump.isNone then .ready else .done) jump))) := fun jump W3 hl3 => by
        have := run_endRound (P := P) jump hl3
        rw [hrec] at this ⊢
        exact this
      rintro e a3 W3 hp
      cases e with
      | normal =>
        obtain ⟨m', hm', hi3⟩ := hp
        exact ⟨_, _, fin none W3 ((rI m').get _ _ hi3), .inl ⟨rfl, m', hm', (rI m').put _ _ _ hi3⟩⟩
      | ret => exact ⟨_, _, fin (some .ret) W3 ((rx _).get _ _ hp), .inr ⟨rfl, .ret, (rx _).put _ _ _ hp⟩⟩
      | exit id => exact ⟨_, _, fin (some (.exit id)) W3 ((rx _).get _ _ hp), .inr ⟨rfl, .exit id, (rx _).put _ _ _ hp⟩⟩
      | goto t => exact ⟨_, _, fin (some (.goto t)) W3 ((rx _).get _ _ hp), .inr ⟨rfl, .goto t, (rx _).put _ _ _ hp⟩⟩
      | panic ch => exact hp.elim
      | outgrown => exact hp.elim
    · rintro e W2 ⟨⟨v, rfl⟩, (hi | ⟨c, hi⟩)⟩
      · exact ⟨none, _, by have := run_endLoop (P := P) (re.get _ _ hi) (by rw [hrec]; simp); rw [hrec] at this; exact this, hdone _ _ (re.put _ _ _ hi)⟩
      · exact ⟨some c, _, by have := run_endLoop (P := P) ((rx c).get _ _ hi) (by rw [hrec]; simp); rw [hrec] at this; exact this, hstop c _ _ ((rx c).put _ _ _ hi)⟩

end Go.Proofs.Ytncniahpglgkmaa

