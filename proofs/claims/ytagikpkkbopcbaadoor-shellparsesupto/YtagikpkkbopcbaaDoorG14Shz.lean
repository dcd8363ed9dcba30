import Derived.Test.YtagikpkkbopcbaaDoorG13Shy
namespace Go.Proofs.YtagikpkkbopcbaaDoor
open Go.RowKit Go.Maps
set_option maxRecDepth 20000
set_option linter.unusedVariables false
set_option linter.unusedSimpArgs false

theorem Prs.len {s : ByteArray} {i : Nat} {ws : List ByteArray} {r : Option (List ByteArray)} (h : Prs s i ws r) : ∀ vs, r = some vs → vs.length ≤ ws.length + (s.size - i) := by
  induction h with
  | ends => intro vs q; cases q; omega
  | blank q _ _ ih => intro vs e; have := ih vs e; omega
  | bad => intro vs q; cases q
  | word q _ z _ ih =>
    intro vs e
    have h1 := ih vs e
    have h2 := z.gt
    rw [List.length_append, List.length_singleton] at h1
    omega

def ST (w : World) (v : Value) (ws : List ByteArray) : Prop :=
  ∃ ao cap, v = .slice ao ws.length cap ∧ ws.length ≤ cap ∧ ∀ i, i < ws.length → ∃ g, ao = some ⟨g, 0, none⟩ ∧ w.cell? ⟨g, i, none⟩ = some (.string (ws.getD i ⟨#[]⟩))

theorem OT.st {w : World} {base : Nat} {v : Value} {ws : List ByteArray} (h : OT w base v ws) : ST w v ws := by
  have hc := @World.ownsRow.cells _ _ _ _ _ _ _ h
  rcases h.2 with ⟨rfl, h0⟩ | ⟨g, cap, cur, rfl, h1, h2, h3, h4, h5, h6⟩
  · exact ⟨none, 0, by rw [h0], by omega, fun i hi => by omega⟩
  · refine ⟨_, cap, rfl, h3, fun i hi => ⟨g, rfl, ?_⟩⟩
    have := hc (g := g) rfl i (.string (ws.getD i ⟨#[]⟩)) (by simp [hi])
    rw [Addr.add_lit] at this
    simpa using this

theorem ST.below {w w' : World} {v : Value} {ws : List ByteArray} (h : ST w v ws) (hb : Below w.heap.size w w') : ST w' v ws := by
  obtain ⟨ao, cap, rfl, h1, h2⟩ := h
  refine ⟨ao, cap, rfl, h1, fun i hi => ?_⟩
  obtain ⟨g, rfl, hc⟩ := h2 i hi
  exact ⟨g, rfl, (hb.cell (World.block_lt_of_cell? _ _ hc)).trans hc⟩

set_option maxHeartbeats 4000000 in
theorem sameTexts_any (v1 v2 : Value) (ws : List ByteArray) (w : World) (h1 : ST w v1 ws) (h2 : ST w v2 ws) (hn : ws.length ≤ 1048576) : Calls Tryd.prog 6 #[v1, v2] w fun e w' => e = .returned (.bool true) ∧ Below w.heap.size w w' := by
  have H1 := hide h1
  have H2 := hide h2
  obtain ⟨ao1, cap1, rfl, hlc1, -⟩ := h1
  obtain ⟨ao2, cap2, rfl, hlc2, -⟩ := h2
  obtain ⟨n, HN⟩ : ∃ n : Nat, Hid (ws.length = n) := ⟨_, rfl⟩
  rw [HN.out] at hn hlc1 hlc2 H1 H2 ⊢
  have hnn : ((n : Int) != (n : Int)) = false := by simp
  go_enter Tryd.func6, Tryd.ntmps6
  go_wp2
  go_loopw [5] (fun i wr => ∃ k m : Nat, k ≤ n ∧ i = .int .i64 (k : Int) ∧ wr = w.drewN m) (fun i _ => n - (intOf i).toNat)
  case atStart => exact ⟨0, 0, Nat.zero_le _, rfl, rfl⟩
  case round =>
    obtain ⟨k, m, hk, rfl, hwr⟩ := hrel
    by_cases c : k < n
    · have c' : (k : Int) < (n : Int) := by omega
      obtain ⟨a9, c9, e9, -, q1⟩ := H1.out
      obtain ⟨a8, c8, e8, -, q2⟩ := H2.out
      obtain ⟨g1, hg1, y1⟩ := q1 k (by rw [HN.out]; exact c)
      obtain ⟨g2, hg2, y2⟩ := q2 k (by rw [HN.out]; exact c)
      simp only [Value.slice.injEq] at e9 e8
      obtain ⟨rfl, -, rfl⟩ := e9
      obtain ⟨rfl, -, rfl⟩ := e8
      subst hg1 hg2
      obtain ⟨u, hu⟩ : ∃ u, ws.getD k ⟨#[]⟩ = u := ⟨_, rfl⟩
      rw [hu] at y1 y2
      have z1 : ∀ q, (w.drewN q).cell? ⟨g1, k, none⟩ = some (.string u) := fun q => y1
      have z2 : ∀ q, (w.drewN q).cell? ⟨g2, k, none⟩ = some (.string u) := fun q => y2
      have hne : (u.toList == u.toList) = true := by simp
      subst hwr
      clear q1 q2 y1 y2 H1 H2 hu
      go_wp2_with fail
      go_quiet (fail)
      go_wp2
      go_roundw
      case rel => exact ⟨k + 1, _, by omega, by go_num, rfl⟩
      case measure => simp [intOf]; omega
    · have c' : ¬ (k : Int) < (n : Int) := by omega
      have HB : Hid (Below w.heap.size w wr) := by rw [hwr]; exact below_drewN (Below.refl _ _) m
      clear hwr
      go_wp2
      go_ret
      exact ⟨rfl, HB.out⟩

set_option maxHeartbeats 4000000 in
theorem shellParses_walk (s : ByteArray) (W : World) (hs : s.size ≤ 1048576) (hE : Esy W) : Calls Tryd.prog 3 #[.string s] W fun e w' => e = .returned (.bool true) ∧ Below W.heap.size W w' := by
  have HP := hide (parse_any s W hs hE)
  have HV := hide (fun wx => vparse_any s wx hs)
  clear hE
  go_enter Tryd.func3, Tryd.ntmps3
  go_wp2_with fail
  refine HP.out.mono ?_
  rintro e w1 ⟨q1, hb1⟩
  have HB1 := hide hb1
  have HV1 := hide (HV.out w1)
  clear HP HV hb1
  rcases q1 with ⟨p1, rfl⟩ | ⟨ws, a1, c1, p1, rfl, o1⟩
  · have HP1 := hide p1
    clear p1
    go_wp2_with fail
    refine HV1.out.mono ?_
    rintro e w2 ⟨q2, hb2⟩
    have HB2 := hide (HB1.out.trans (hb2.mono HB1.out.size))
    rcases q2 with ⟨p2, rfl⟩ | ⟨ws2, a2, c2, p2, _⟩
    · have HS := hide (sameTexts_any (.slice none 0 0) (.slice none 0 0) [] w2 ⟨none, 0, rfl, Nat.le_refl _, fun i hi => by simp at hi⟩ ⟨none, 0, rfl, Nat.le_refl _, fun i hi => by simp at hi⟩ (by simp))
      clear p2 hb2 HV1 HP1
      go_wp2_with fail
      refine HS.out.mono ?_
      rintro e w3 ⟨rfl, hb3⟩
      have HB3 := hide (HB2.out.trans (hb3.mono HB2.out.size))
      clear hb3 HS
      go_wp2
      go_ret
      exact ⟨rfl, HB3.out⟩
    · exact absurd (HP1.out.det p2) (by simp)
  · have HP1 := hide p1
    have HO1 := hide o1
    clear p1 o1
    obtain ⟨n1, HN1⟩ : ∃ n : Nat, Hid (ws.length = n) := ⟨_, rfl⟩
    rw [HN1.out] at HO1 ⊢
    go_wp2_with fail
    refine HV1.out.mono ?_
    rintro e w2 ⟨q2, hb2⟩
    have HB2 := hide (HB1.out.trans (hb2.mono HB1.out.size))
    rcases q2 with ⟨p2, rfl⟩ | ⟨ws2, a2, c2, p2, rfl, o2⟩
    · exact absurd (HP1.out.det p2) (by simp)
    · have hw : ws = ws2 := by simpa using HP1.out.det p2
      subst hw
      have hlen : ws.length ≤ 1048576 := by have := HP1.out.len _ rfl; simp at this; omega
      have HS : Hid (Calls Tryd.prog 6 #[.slice a1 n1 c1, .slice a2 n1 c2] w2 fun e w' => e = .returned (.bool true) ∧ Below w2.heap.size w2 w') := by
        rw [HN1.out] at o2
        exact sameTexts_any _ _ ws w2 (HO1.out.st.below hb2) o2.st hlen
      rw [HN1.out]
      clear p2 hb2 HV1 HP1 o2 hlen
      go_wp2_with fail
      refine HS.out.mono ?_
      rintro e w3 ⟨rfl, hb3⟩
      have HB3 := hide (HB2.out.trans (hb3.mono HB2.out.size))
      clear hb3 HS
      go_wp2
      go_ret
      exact ⟨rfl, HB3.out⟩
end Go.Proofs.YtagikpkkbopcbaaDoor

