import Derived.Test.YteiajeeincapoacCrash
import Derived.Maps.Views
import Derived.Maps.OwnSet
namespace Go.Proofs.Yteiajeeincapoac
open Go.RowKit Go.Maps

theorem PcsOK.snoc {w : World} {K : Nat → Nat} {p : Nat × Nat × List Int} {vd : Value} (h1 : SB w vd p.2.2) (h2 : Role K vd 6) : ∀ (cs : List Value) (ps : List (Nat × Nat × List Int)), PcsOK w K cs ps → PcsOK w K (cs ++ [.int .i64 p.1, .int .i64 p.2.1, vd]) (ps ++ [p])
  | [], [], _ => ⟨rfl, rfl, h1, h2, trivial⟩
  | _ :: _ :: _ :: r, _ :: ps, h => ⟨h.1, h.2.1, h.2.2.1, h.2.2.2.1, PcsOK.snoc h1 h2 r ps h.2.2.2.2⟩

theorem keyLit (s : Nat) : WideAt.IsKeyLit (.int .i64 (s : Int)) := trivial

theorem RepV.addPc {w w2 w4 w6 : World} {K : Nat → Nat} {g : Nat} {st : St} {vn vd : Value} {m : Nat} {vs : Value} {D : DataW Unit} (h : RepV w K g st vn vd m vs D) {s : Nat} (hs : s ≤ 40000) {v : Value} {cs0 : List Value}
    (hrole : Role K v (7 + s)) (hpok : PcsOK w K cs0 (st.pcs s)) {p : Nat × Nat × List Int} {vp : Value}
    (hb2 : Below w.heap.size w w2) (hsp : SB w2 vp p.2.2) (hrp : Role K vp 6) {gg cap : Nat}
    (hown : w4.ownsRow 0 73 3 (.slice (some ⟨gg, 0, none⟩) ((st.pcs s).length + 1) cap) ((st.pcs s).length + 1) (cs0 ++ [.int .i64 p.1, .int .i64 p.2.1, vp]))
    (hg4 : w2.grownBy w4 v.ownBlock) (hat : v.ownBlock = some gg ∨ w.heap.size ≤ gg) (hgg : gg < w4.heap.size) {n : Nat} (hn : n ≤ st.ents) 
    (hm6 : w6.ownsMap Try.prog 3 tokR m (n + 1) (D.put (.int .i64 s) (.agg [.lit (.int .i64 gg), .lit (.int .i64 ((st.pcs s).length + 1 : Nat)), .lit (.int .i64 cap)]))) (hg6 : w4.grownBy w6 (some m)) :
    ∃ K', RepV w6 K' g { st with pcs := fun t => if t = s then st.pcs s ++ [p] else st.pcs t, ents := st.ents + 1 } vn vd m vs (D.put (.int .i64 s) (.agg [.lit (.int .i64 gg), .lit (.int .i64 ((st.pcs s).length + 1 : Nat)), .lit (.int .i64 cap)])) ∧ Fr K K' w w6 := by
  have hDm : IsMap D := by obtain ⟨_, _, hm⟩ := h.hm; exact hm.isMap
  have s2 := hb2.size
  have s4 := hg4.size
  have s6 := hg6.size
  have keep : ∀ k, k < w.heap.size → K k ≠ 4 → K k ≠ 7 + s → w6.heap[k]? = w.heap[k]? := fun k hk k4 k7 => by
    rw [hg6.block k (by omega) (fun e => k4 (by rw [Option.some.inj e]; exact h.km)), hg4.block k (by omega) (fun e => k7 (hrole k e.symm))]
    exact hb2.block k hk
  have u : Upd w w6 K (fun k => if k = gg then 7 + s else K k) (fun r => r = 4 ∨ r = 7 + s) := by
    refine ⟨by omega, fun k hk => ?_, fun k k0 hS => keep k (h.sup k k0) (fun e => hS (.inl e)) (fun e => hS (.inr e))⟩
    by_cases e : k = gg
    · simp only [e, if_true]
      rcases hat with e2 | e2
      · exact (hrole gg e2).symm
      · omega
    · simp [e]
  have hgm : gg ≠ m := fun e => by
    rcases hat with e2 | e2
    · have := hrole gg e2; rw [e, h.km] at this; omega
    · have := h.sup m (by rw [h.km]; omega); omega
  have gne : g ≠ gg := fun e => by
    rcases hat with e2 | e2
    · have := hrole gg e2; rw [← e, h.kg] at this; omega
    · have := h.dc.lt; omega
  have hr6 : ∀ k, K k = 6 → w6.heap[k]? = w.heap[k]? := fun k hk => keep k (h.sup k (by omega)) (by omega) (by omega)
  refine ⟨_, { dc := (keep g h.dc.lt (by rw [h.kg]; omega) (by rw [h.kg]; omega)).trans h.dc, kg := by simp [gne, h.kg], hn := h.now' u (by omega), kn := h.role u (by omega) h.kn, hd := h.dur' u (by omega), kd := h.role u (by omega) h.kd, hm := ⟨n + 1, by simp only []; omega, hm6⟩, km := by simp [Ne.symm hgm, h.km], hs := h.sizes' u (by omega), ks := h.role u (by omega) h.ks, rows := ?_, keys := ?_, sup := ?_ }, ?_⟩
  · intro t
    by_cases ht : t = s
    · subst ht
      refine ⟨.slice (some ⟨gg, 0, none⟩) ((st.pcs t).length + 1) cap, ?_, ?_, ?_⟩
      · rw [atKey_put_same hDm (keyLit t)]
        rfl
      · intro k hk
        simp only [Value.ownBlock, Option.some.injEq] at hk
        simp [hk]
      · simp only [if_true]
        refine ⟨_, PcsOK.snoc (vd := vp) ?_ ?_ _ _ (PcsOK.roles (K := K) ?_ _ _ (hpok.move hr6)), ?_⟩
        · refine hsp.same fun k hk => ?_
          have hk6 := hrp k hk
          rw [hr6 k hk6, hb2.block k (h.sup k (by omega))]
        · exact h.role u (by omega) hrp
        · intro k hk
          rw [u.role k (h.sup k (by omega)), hk]
        · rw [List.length_append]
          exact ownsRow_same hown fun k hk => by
            simp only [Value.ownBlock, Option.some.injEq] at hk
            exact hg6.block k (by omega) (fun e => hgm (by rw [← Option.some.inj e]; exact hk))
    · simp only [ht, if_false]
      rw [atKey_put_other (by simp; omega)]
      exact h.row' u (by omega) t (by omega)
  · intro kl hkl
    by_cases e : kl = .int .i64 (s : Int)
    · exact ⟨s, hs, e⟩
    · rw [has_put_other e] at hkl
      exact h.keys kl hkl
  · intro k hk
    by_cases e : k = gg
    · omega
    · simp only [e, if_false] at hk
      have := h.sup k hk
      omega
  · refine ⟨?_, ?_, ?_, u.size, fun k hk k0 => keep k hk (by omega) (by omega), u.role⟩
    · exact hg6.os.trans (hg4.os.trans hb2.os)
    · exact hg6.tape.trans (hg4.tape.trans hb2.tape)
    · exact hg6.output.trans (hg4.output.trans hb2.output)
end Go.Proofs.Yteiajeeincapoac
