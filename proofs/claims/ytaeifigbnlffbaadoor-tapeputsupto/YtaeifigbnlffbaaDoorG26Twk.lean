import Derived.Test.YtaeifigbnlffbaaDoorG25Twj
import Derived.Test.YtaeifigbnlffbaaDoorG21Tpw
namespace Go.Proofs.YtaeifigbnlffbaaDoor
open Go.RowKit Go.Maps
set_option maxRecDepth 20000
set_option linter.unusedVariables false
set_option linter.unusedSimpArgs false

/-! The law TapePuts' own walk. -/

theorem infoFile2 : (Tryd.prog.info? 39).map (fun i => (i.zero.map (·.cells.size), i.size, i.bytes)) = some (some 10, 10, 128) := by kernel_rfl
theorem infoBytes2 : (Tryd.prog.info? 22).map (fun i => (i.zero.map (·.cells.size), i.size, i.bytes)) = some (some 1, 1, 24) := by kernel_rfl

theorem parts_of {t : TypeId} {a b c : Nat} (h : (Tryd.prog.info? t).map (fun i => (i.zero.map (·.cells.size), i.size, i.bytes)) = some (some a, b, c)) : ∃ i z, Tryd.prog.info? t = some i ∧ i.zero = some z ∧ i.size = b ∧ i.bytes = c ∧ z.cells.size = a := by
  cases hi : Tryd.prog.info? t with
  | none => rw [hi] at h; cases h
  | some i =>
    rw [hi] at h
    simp only [Option.map_some, Option.some.injEq, Prod.mk.injEq] at h
    obtain ⟨h1, h2, h3⟩ := h
    cases hz : i.zero with
    | none => rw [hz] at h1; cases h1
    | some z =>
      rw [hz] at h1
      simp only [Option.map_some, Option.some.injEq] at h1
      exact ⟨i, z, rfl, hz, h2, h3, h1⟩

theorem news_new (w : World) (cs : List Value) (t : TypeId) : ∀ j u, cs[j]? = some u → (w.alloc (.cells cs.toArray t)).cell? ((⟨w.heap.size, 0, none⟩ : Addr).add j) = some u := by
  intro j u hj
  have e := heap_alloc_new w (.cells cs.toArray t)
  rw [Addr.add_lit]
  unfold World.cell?
  simp only [e, Nat.zero_add]
  simpa using hj

theorem row_mv {w w' : World} {base e size n : Nat} {v : Value} {xs : List Value} (h : w.ownsRow base e size v n xs) (hk : ∀ b, v.ownBlock = some b → w'.heap[b]? = w.heap[b]?) : w'.ownsRow base e size v n xs := by
  refine ⟨h.1, ?_⟩
  rcases h.2 with q | ⟨g, cap, cur, rfl, h1, h2, r⟩
  · exact .inl q
  · exact .inr ⟨g, cap, cur, rfl, h1, (hk g rfl).trans h2, r⟩

theorem ob_shape {w : World} {B m : Nat} {v : Value} {l : List Int} (h : OB w B v l) (hm : l.length = m) (h0 : 0 < m) : ∃ g c, v = .slice (some ⟨g, 0, none⟩) m c ∧ B ≤ g ∧ g < w.heap.size ∧ m ≤ c := by
  rcases h.2 with ⟨_, q⟩ | ⟨g, cap, cur, rfl, h1, h2, r⟩
  · omega
  · exact ⟨g, cap, by rw [hm], h1, (Array.getElem?_eq_some_iff.1 h2).1, by have := r.1; omega⟩

theorem sb_mv {w w' : World} {g n c : Nat} {l : List Int} (h : SB w (.slice (some ⟨g, 0, none⟩) n c) l) (hb : w'.heap[g]? = w.heap[g]?) : SB w' (.slice (some ⟨g, 0, none⟩) n c) l := by
  obtain ⟨ao, c', e, q1, q2, q3, q4⟩ := h
  refine ⟨ao, c', e, q1, q2, q3, fun a ha i hi => ?_⟩
  have e2 := e
  simp only [Value.slice.injEq] at e2
  obtain ⟨rfl, -, -⟩ := e2
  cases ha
  have := q4 _ rfl i hi
  rw [Addr.add_lit] at this ⊢
  unfold World.cell? at this ⊢
  rw [hb]
  exact this

theorem sb_lt {w : World} {g n c : Nat} {l : List Int} (h : SB w (.slice (some ⟨g, 0, none⟩) n c) l) (h0 : 0 < l.length) : g < w.heap.size := by
  obtain ⟨ao, c', e, q1, q2, q3, q4⟩ := h
  simp only [Value.slice.injEq] at e
  obtain ⟨rfl, -, -⟩ := e
  have := q4 _ rfl 0 h0
  rw [Addr.add_lit] at this
  exact World.block_lt_of_cell? w _ this

theorem sb_at {w : World} {g n c : Nat} {l : List Int} (h : SB w (.slice (some ⟨g, 0, none⟩) n c) l) {i : Nat} (hi : i < l.length) : w.cell? ⟨g, i, none⟩ = some (.int .u8 (l.getD i 0)) := by
  obtain ⟨ao, c', e, q1, q2, q3, q4⟩ := h
  simp only [Value.slice.injEq] at e
  obtain ⟨rfl, -, -⟩ := e
  have := q4 _ rfl i hi
  rw [Addr.add_lit, Nat.zero_add] at this
  exact this

theorem own_shape {w : World} {base e size n : Nat} {v : Value} {xs : List Value} (h : w.ownsRow base e size v n xs) (h0 : 0 < n) : ∃ g c, v = .slice (some ⟨g, 0, none⟩) n c := by
  rcases h.2 with ⟨_, q⟩ | ⟨g, cap, cur, rfl, r⟩
  · omega
  · exact ⟨g, cap, rfl⟩

def szf (fs : List Fl) : Nat := (fs.map fun f => 512 + pdd f.dt.length).sum
def res (fs : List Fl) : Int × List Int :=
  if 16777216 < 1024 + szf fs then (1, []) else if fs.all (fun f => okS f f.dt.length) = true then (0, (fs.map ent).flatten ++ List.replicate 1024 0) else (243, [])

theorem szf_is (L : List Fv) : szN L = szf (L.map (·.1)) := by
  unfold szN szf
  rw [List.map_map]; rfl

theorem ents_is (L : List Fv) : ents L = ((L.map (·.1)).map ent).flatten := by
  unfold ents
  rw [List.map_map]; rfl

theorem res_code (fs : List Fl) : (res fs).1 = 0 ∨ (res fs).1 = 1 ∨ (res fs).1 = 243 := by
  unfold res
  split
  · exact .inr (.inl rfl)
  · split
    · exact .inl rfl
    · exact .inr (.inr rfl)

theorem sb_none (w : World) : SB w (.slice none 0 0) [] := OB.sb (base := 0) (World.ownsRow_nil _ _ _ _)

theorem pans_res {w w' : World} {L : List Fv} {e : Ending} (h : PAns w L e w') : ∃ b, e = .returned (.tuple #[b, .int .i64 (res (L.map (·.1))).1]) ∧ SB w' b (res (L.map (·.1))).2 ∧ Below w.heap.size w w' := by
  obtain ⟨hb, ⟨h1, rfl⟩ | ⟨h1, ⟨p, hp, hk⟩, rfl⟩ | ⟨h1, h2, v, rfl, ho⟩⟩ := h
  · rw [szf_is] at h1
    unfold res
    rw [if_pos h1]
    exact ⟨_, rfl, sb_none _, hb⟩
  · rw [szf_is] at h1
    unfold res
    rw [if_neg (by omega), if_neg (fun q => by
      rw [List.all_eq_true] at q
      have := q p.1 (List.mem_map.2 ⟨p, hp, rfl⟩)
      rw [hk] at this; cases this)]
    exact ⟨_, rfl, sb_none _, hb⟩
  · rw [szf_is] at h1
    unfold res
    rw [if_neg (by omega), if_pos (by
      rw [List.all_eq_true]
      intro f hf
      obtain ⟨p, hp, rfl⟩ := List.mem_map.1 hf
      exact h2 p hp)]
    refine ⟨v, rfl, ?_, hb⟩
    have := ho.sb
    unfold tape at this
    rw [ents_is] at this
    exact this

theorem fst_all {M L : List Fv} (h : M.map (·.1) = L.map (·.1)) {P : Fl → Prop} (hp : ∀ p ∈ L, P p.1) : ∀ p ∈ M, P p.1 := by
  intro p hm
  have : p.1 ∈ L.map (·.1) := by rw [← h]; exact List.mem_map.2 ⟨p, hm, rfl⟩
  obtain ⟨q, hq, e⟩ := List.mem_map.1 this
  rw [← e]
  exact hp q hq

theorem hnum (x : Int) (hx : x = 0 ∨ x = 1 ∨ x = 243) (w : World) : Calls Tryd.prog 10 #[.int .i64 x] w fun e w' => e = .returned (.int .i64 x) ∧ w' = w := by
  have hw : IntKind.i64.wrap x = x := by rw [IntKind.wrap_i64]; omega
  go_enter Tryd.func10, Tryd.ntmps10
  go_wp2
  go_ret
  exact ⟨rfl, rfl⟩

def Rm (wx : World) (base g : Nat) (rv : Value) (p : Fv) (u : Value) : Prop :=
  ∃ gj cj, p.2 = .slice (some ⟨gj, 0, none⟩) p.1.dt.length cj ∧ u = .slice (some ⟨gj, 0, none⟩) (p.1.dt.length + 3) cj ∧ base ≤ gj ∧ gj ≠ g ∧ rv.ownBlock ≠ some gj ∧ SB wx u (p.1.dt ++ [165, 166, 167])

structure PL (w : World) (L : List Fv) (g k : Nat) (rv : Value) (wx : World) (M : List Fv) (ps : List Value) : Prop where
  bel : Below w.heap.size w wx
  fst : M.map (·.1) = L.map (·.1)
  row : BG wx g (M ++ [mkV])
  rooms : wx.ownsRow w.heap.size 22 1 rv k ps
  sep : rv.ownBlock ≠ some g
  each : ∀ j p u, j < k → M[j]? = some p → ps[j]? = some u → Rm wx w.heap.size g rv p u

set_option maxHeartbeats 8000000 in
theorem tapePuts_walk (v : Value) (L : List Fv) (w : World) (h : RF w v L) (T : Tbs w) (hn : L.length ≤ 1000000 - 1) (hd : ∀ p ∈ L, p.1.dt.length ≤ 1048576) (hz : ∀ p ∈ L, p.1.nm.size ≤ 1048576 ∧ p.1.lk.size ≤ 1048576 ∧ p.1.us.size ≤ 1048576 ∧ p.1.tm.size ≤ 1048576) :
    Calls Tryd.prog 6 #[v] w fun e w' => e = .returned (.bool true) ∧ Below w.heap.size w w' := by
  have HRF : Hid (∀ wx, Below w.heap.size w wx → RF wx v L) := fun wx hb => h.keep hb
  have HTB : Hid (∀ wx, Below w.heap.size w wx → Tbs wx) := fun wx hb => T.mono hb
  have HD := hide hd
  have HZ := hide hz
  have HTW := hide (htwin v L w h (by omega) hd)
  obtain ⟨i8, z8, q1, q2, q3, q4, q5⟩ := parts_of infoBytes2
  have hi8 := hide q1
  have hz8 := hide q2
  have hs8 := hide q3
  have hy8 := hide q4
  have hc8 := hide q5
  clear q1 q2 q3 q4 q5
  obtain ⟨i0, z0, q1, q2, q3, q4, q5⟩ := parts_of infoFile2
  have hi0 := hide q1
  have hz0 := hide q2
  have hs0 := hide q3
  have hy0 := hide q4
  have hc0 := hide q5
  clear q1 q2 q3 q4 q5
  obtain ⟨ao, c, rfl, hc1, hc2⟩ := h.shape
  obtain ⟨n, HN⟩ : ∃ n, Hid (n = L.length) := ⟨_, rfl⟩
  rw [← HN.out] at HRF HTW hc1 hn ⊢
  clear h hd hz T
  go_enter Tryd.func6, Tryd.ntmps6
  go_wp2_with (first
    | (go_at_call 13; refine HTW.out.mono ?_; rintro e w1 ⟨M0, hm0, rfl, hbf, hdt, hb1⟩; have HM0 := hide hm0; have HBF0 := hide hbf; have HDT0 := hide hdt; have HB1 := hide hb1; have HM0L : Hid (M0.length = n) := (by have := congrArg List.length hm0; simp only [List.length_map] at this; show _ = _; rw [this, HN.out]); have HOW0 : Hid ((w1.alloc (.cells (fcs mkF (.slice none 0 0)) 39)).ownsRow w.heap.size 39 10 (.slice (some ⟨w.heap.size, 0, none⟩) n n) n (frow M0)) := (by have q := hbf.owns (base := w.heap.size) (Nat.le_refl _) (by have := HM0L.out; omega); rw [HM0L.out] at q; exact row_mv q (fun b hb => by simp only [Value.ownBlock, Option.some.injEq] at hb; subst hb; exact Below.heap_alloc w1 _ _ (Array.getElem?_eq_some_iff.1 hbf).1)); have HSZ0 : Hid (w.heap.size ≤ (w1.alloc (.cells (fcs mkF (.slice none 0 0)) 39)).heap.size) := (by show _ ≤ _; rw [size_alloc']; have := hb1.size; omega); clear hm0 hbf hdt hb1)
    | (at_builtin; refine wpList_append_own_at _ rfl _ _ 23 rfl w.heap.size 39 i0 z0 10 128 Tryd.underlying23 hi0.out hz0.out hs0.out hy0.out hc0.out (by decide) _ n (frow M0) (by rfl) HOW0.out ⟨w1.heap.size, 0, none⟩ 1 1 (fcs mkF (.slice none 0 0)).toList (by rfl) rfl (news_new _ _ _) (by intro u hu; simp [fcs, mkF] at hu; rcases hu with rfl | rfl | rfl | rfl <;> rfl) (by unfold maxLen; omega) (by omega) HSZ0.out ?_; intro v2 w2 o2 g2 _ l2; have HO2 := hide o2; have HG2 := hide g2; clear o2 g2 l2))
  have o2' : w2.ownsRow w.heap.size 39 10 v2 (n + 1) (frow (M0 ++ [mkV])) := by rw [frow_app]; exact HO2.out
  obtain ⟨g, cap, rfl, hgb, hbg, hcap, hcapm⟩ := BG.of o2' (by omega)
  have HB2 : Hid (Below w.heap.size w w2) := (HB1.out.alloc HB1.out.size _).grown HG2.out HSZ0.out (fun b hb => by simp only [Value.ownBlock, Option.some.injEq] at hb; omega)
  have HGB := hide hgb
  have HBG := hide hbg
  clear o2' hgb hbg
  go_loopw [5, 6, 7] (fun rv i _ wx => ∃ (k : Nat) (M : List Fv) (ps : List Value), k ≤ n ∧ i = .int .i64 k ∧ PL w L g k rv wx M ps) (fun _ i _ _ => n - (intOf i).toNat)
  case atStart => exact ⟨0, M0, [], Nat.zero_le _, rfl, ⟨HB2.out, HM0.out, HBG.out, ⟨rfl, .inl ⟨rfl, rfl⟩⟩, by simp [Value.ownBlock], fun j _ _ hj => by omega⟩⟩
  case round =>
    obtain ⟨k, M, ps, hk, rfl, hpl⟩ := hrel
    have HPL := hide hpl
    have HGW := hide hpl.row.lt
    have HWR := hide hpl.bel.size
    clear hpl
    by_cases hlt : k < n
    · have hlt' : (k : Int) < (n : Int) := by omega
      obtain ⟨p, hp⟩ : ∃ p, L[k]? = some p := ⟨L[k]'(by have := HN.out; omega), by simp⟩
      have HMK : Hid (M.length = n) := by
        have := congrArg List.length HPL.out.fst
        simp only [List.length_map] at this
        show _ = _
        rw [this, HN.out]
      obtain ⟨q, hq⟩ : ∃ q, M[k]? = some q := ⟨M[k]'(by have := HMK.out; omega), by simp⟩
      obtain ⟨f, dv⟩ := p
      obtain ⟨f2, dv2⟩ := q
      obtain rfl : f2 = f := by
        have := congrArg (fun l => l[k]?) HPL.out.fst
        simp [hp, hq] at this
        exact this
      have hdl := HD.out _ (List.mem_of_getElem? hp)
      simp only at hdl
      obtain ⟨da, dc, hdv, -⟩ := (HRF.out _ HPL.out.bel).data _ (List.mem_of_getElem? hp)
      simp only at hdv
      subst hdv
      obtain ⟨b, o, c', e, hcell⟩ := (HRF.out w (Below.refl _ _)).get k _ hp
      simp only [Value.slice.injEq] at e
      obtain ⟨rfl, -, -⟩ := e
      have c9w := hcell 9 _ rfl
      have HC9 : Hid (∀ wx, Below w.heap.size w wx → wx.cell? ⟨b, o + k * 10 + 9, none⟩ = some (.slice da f2.dt.length dc)) := fun wx hb => (hb.cell (World.block_lt_of_cell? w _ c9w)).trans c9w
      have c9 := HC9.out _ HPL.out.bel
      have HCL := hide (hclone (.slice da f2.dt.length dc) f2.dt wr ((HRF.out _ HPL.out.bel).data _ (List.mem_of_getElem? hp)) (by omega))
      have HQ := hide hq
      have HPK : Hid (ps.length = k) := by have := HPL.out.rooms.1; show _ = _; omega
      have HQ2 : Hid ((M ++ [mkV])[k]? = some (f2, dv2)) := by
        show _ = _
        rw [List.getElem?_append_left (List.getElem?_eq_some_iff.1 hq).1]; exact hq
      clear hcell hp hq c9w
      go_wp2_with (first
        | (go_at_call 11; refine HCL.out.mono ?_; rintro e w3 ⟨rfl, h3, b3⟩; have H3 := hide h3; have B3 := hide b3; have HOB3 : Hid (OB (w3.alloc (.cells (([165, 166, 167] : List Int).map (Value.int .u8)).toArray 5)) wr.heap.size (.slice (some ⟨wr.heap.size, 0, none⟩) f2.dt.length f2.dt.length) f2.dt) := (OB.of_full (l := f2.dt) h3 (Nat.le_refl _) (by unfold maxLen; omega)).alloc _; have HZ3 : Hid (wr.heap.size ≤ (w3.alloc (.cells (([165, 166, 167] : List Int).map (Value.int .u8)).toArray 5)).heap.size) := (by show _ ≤ _; rw [size_alloc']; have := b3.size; omega); clear h3 b3)
        | (refine wpList_app rfl _ _ 22 rfl wr.heap.size _ (.slice (some ⟨w3.heap.size, 0, none⟩) 3 3) f2.dt [165, 166, 167] (by rfl) HOB3.out (by rfl) (built_src w3 [165, 166, 167]) (by simp; omega) HZ3.out ?_; intro v4 w4 o4 g4; obtain ⟨gj, cj, hv4, hgj, hgl, hcj3⟩ := ob_shape o4 (m := f2.dt.length + 3) (by simp) (by omega); subst hv4; have hcj : f2.dt.length ≤ cj := (by omega); have HO4 := hide o4.sb; have HGJ : Hid (wr.heap.size ≤ gj ∧ gj < w4.heap.size) := ⟨hgj, hgl⟩; have HB4 : Hid (Below wr.heap.size wr w4) := (B3.out.alloc B3.out.size _).grown g4.by HZ3.out (fun b hb => by simp only [Value.ownBlock, Option.some.injEq] at hb; omega); clear o4 g4 hgj hgl)
        | (at_builtin; refine wpList_append_own_at _ rfl _ _ 41 rfl w.heap.size 22 i8 z8 1 24 Tryd.underlying41 hi8.out hz8.out hs8.out hy8.out hc8.out (by decide) _ k ps (by rfl) (row_mv HPL.out.rooms (fun b hb => (Below.heap_alloc w4 _ _ (by have := (World.ownsRow.lt HPL.out.rooms b hb).2; have := HB4.out.size; omega)).trans (HB4.out.block _ (World.ownsRow.lt HPL.out.rooms b hb).2))) ⟨w4.heap.size, 0, none⟩ 1 1 [.slice (some ⟨gj, 0, none⟩) (f2.dt.length + 3) cj] (by rfl) rfl (news_new _ _ _) (by intro u hu; simp at hu; subst hu; rfl) (by unfold maxLen; omega) (by omega) (by rw [size_alloc']; have := HB4.out.size; have := HWR.out; omega) ?_; intro v5 w5 o5 g5 _ l5; have HO5 := hide o5; have HG5 := hide g5; have HL5 := hide l5; have HB5 : Hid (Below w.heap.size w w5) := (((HPL.out.bel.trans (HB4.out.mono HWR.out)).alloc (by have := HB4.out.size; have := HWR.out; omega) _).grown g5 (by rw [size_alloc']; have := HB4.out.size; have := HWR.out; omega) (fun b hb => (World.ownsRow.lt HPL.out.rooms b hb).1)); have HKE : Hid (∀ x, x < w4.heap.size → u5.ownBlock ≠ some x → w5.heap[x]? = w4.heap[x]?) := (fun x hx hn => (g5.block x (by rw [size_alloc']; omega) (fun e => hn e.symm)).trans (Below.heap_alloc w4 _ _ hx)); have HBG5 : Hid (BG w5 g (M ++ [mkV])) := HPL.out.row.keep ((HKE.out g (by have := HB4.out.size; have := HGW.out; omega) HPL.out.sep).trans (HB4.out.block g HGW.out)); have HZ5 : Hid (w4.heap.size + 1 ≤ w5.heap.size) := (by have := g5.size; rw [size_alloc'] at this; exact this); clear o5 g5 l5; have c9b := HC9.out w5 HB5.out; have q9 := HBG5.out.cell HQ2.out (j := 9) rfl; have hfz := HBG5.out.frozen (k * 10 + 9)))
      clear q9 hfz c9b c9
      obtain ⟨W, hW⟩ : ∃ W, W = w5.setCell ⟨g, k * 10 + 9, none⟩ (.slice (some ⟨gj, 0, none⟩) f2.dt.length cj) := ⟨_, rfl⟩
      rw [← hW]
      have hoth : ∀ x, x ≠ g → W.heap[x]? = w5.heap[x]? := fun x hx => by rw [hW]; exact setCell_others _ _ _ _ _ hx
      have hgjg : gj ≠ g := by have := HGJ.out; have := HGW.out; omega
      have hrl : ∀ b, u5.ownBlock = some b → b < wr.heap.size := fun b hb => (World.ownsRow.lt HPL.out.rooms b hb).2
      have h5g : v5.ownBlock ≠ some g := by
        rcases HL5.out with e | e
        · rw [e]; exact HPL.out.sep
        · rw [e, size_alloc']
          have := HB4.out.size; have := HGW.out
          simp only [ne_eq, Option.some.injEq]; omega
      have h5o : ∀ x, x < w4.heap.size → u5.ownBlock ≠ some x → v5.ownBlock ≠ some x := fun x hx hn => by
        rcases HL5.out with e | e
        · rw [e]; exact hn
        · rw [e, size_alloc']
          simp only [ne_eq, Option.some.injEq]; omega
      have hnj : u5.ownBlock ≠ some gj := fun e => by have := hrl _ e; have := HGJ.out; omega
      have HPN : Hid (PL w L g (k + 1) v5 W (M.set k (f2, .slice (some ⟨gj, 0, none⟩) f2.dt.length cj)) (ps ++ [.slice (some ⟨gj, 0, none⟩) (f2.dt.length + 3) cj])) := {
        bel := HB5.out.trans (by rw [hW]; exact grown_below24 (grownBy_set rfl) HGB.out HB5.out.size)
        fst := by rw [map_set_fst HQ.out]; exact HPL.out.fst
        row := by
          have := HBG5.out.set HQ2.out (.slice (some ⟨gj, 0, none⟩) f2.dt.length cj)
          rw [List.set_append_left _ _ (by have := HMK.out; omega)] at this
          rw [hW]; exact this
        rooms := row_mv HO5.out (fun b hb => hoth b (fun e => h5g (by rw [hb, e])))
        sep := h5g
        each := fun j p u hj hp hu => by
          by_cases hjk : j = k
          · subst hjk
            rw [List.getElem?_set_self (by have := HMK.out; omega)] at hp
            rw [List.getElem?_append_right (by have := HPK.out; omega), HPK.out, Nat.sub_self] at hu
            cases hp
            cases hu
            exact ⟨gj, cj, rfl, rfl, by have := HGJ.out; have := HWR.out; omega, hgjg, h5o gj HGJ.out.2 hnj, sb_mv HO4.out ((hoth _ hgjg).trans (HKE.out gj HGJ.out.2 hnj))⟩
          · rw [List.getElem?_set_ne (fun e => hjk e.symm)] at hp
            rw [List.getElem?_append_left (by have := HPK.out; omega)] at hu
            obtain ⟨g', c', r1, r2, r3, r4, r5, r6⟩ := HPL.out.each j p u (by omega) hp hu
            have hlt2 : g' < wr.heap.size := sb_lt (r2 ▸ r6) (by simp)
            refine ⟨g', c', r1, r2, r3, r4, h5o g' (by have := HB4.out.size; omega) r5, ?_⟩
            rw [r2] at r6 ⊢
            exact sb_mv r6 ((hoth _ r4).trans ((HKE.out g' (by have := HB4.out.size; omega) r5).trans (HB4.out.block g' hlt2))) }
      clear hoth hW h5g h5o hnj hrl
      go_roundw
      case rel => exact ⟨k + 1, _, _, by omega, by go_num, HPN.out⟩
      case measure => simp [intOf]; omega
    · obtain rfl : k = n := by omega
      have HML : Hid (M.length = k) := by
        have := congrArg List.length HPL.out.fst
        simp only [List.length_map] at this
        show _ = _
        rw [this, HN.out]
      have HPK : Hid (ps.length = k) := by have := HPL.out.rooms.1; show _ = _; omega
      have HEA : Hid (∀ j p, M[j]? = some p → ∃ u, ps[j]? = some u ∧ Rm wr w.heap.size g u5 p u) := fun j p hp => by
        have hj := (List.getElem?_eq_some_iff.1 hp).1
        have hj2 : j < ps.length := by have := HPK.out; have := HML.out; omega
        exact ⟨ps[j], List.getElem?_eq_getElem hj2, HPL.out.each j p _ (by have := HML.out; omega) hp (List.getElem?_eq_getElem hj2)⟩
      have HDM := hide (fst_all (P := fun f => f.dt.length ≤ 1048576) HPL.out.fst HD.out)
      have HZM := hide (fst_all (P := fun f => f.nm.size ≤ 1048576 ∧ f.lk.size ≤ 1048576 ∧ f.us.size ≤ 1048576 ∧ f.tm.size ≤ 1048576) HPL.out.fst HZ.out)
      have HSM : Hid (∀ p ∈ M, SB wr p.2 p.1.dt) := fun p hp => by
        obtain ⟨j, hj⟩ := List.getElem?_of_mem hp
        obtain ⟨u, -, gj, cj, e1, e2, -, -, -, e6⟩ := HEA.out j p hj
        rw [e1]
        rw [e2] at e6
        exact sb_pre e6 (by simp)
      have HRM : Hid (RF wr (.slice (some ⟨g, 0, none⟩) k cap) M) := by
        have := HPL.out.row.rf (R := [mkV]) HSM.out (c := cap) (by have := HML.out; omega) hcapm
        rw [HML.out] at this
        exact this
      obtain ⟨X, HX⟩ : ∃ X, Hid (X = (res (L.map (·.1))).1) := ⟨_, rfl⟩
      obtain ⟨Y, HY⟩ : ∃ Y, Hid (Y = (res (L.map (·.1))).2) := ⟨_, rfl⟩
      have HXC : Hid (X = 0 ∨ X = 1 ∨ X = 243) := by rw [HX.out]; exact res_code _
      have HPUT : Hid (Calls Tryd.prog 12 #[.slice (some ⟨g, 0, none⟩) k cap] wr fun e w' => ∃ b, e = .returned (.tuple #[b, .int .i64 X]) ∧ SB w' b Y ∧ Below wr.heap.size wr w') := by
        rw [HX.out, HY.out, ← HPL.out.fst]
        exact (hPut _ M wr HRM.out (HTB.out _ HPL.out.bel) (by have := HML.out; omega) HDM.out HZM.out).mono fun e w' h => pans_res h
      have HXP : Hid (∀ wx, Below w.heap.size w wx → Calls Tryd.prog 18 #[.slice ao k c] wx fun e w' => ∃ b, e = .returned (.tuple #[b, .int .i64 X]) ∧ SB w' b Y ∧ Below wx.heap.size wx w') := fun wx hb => by
        rw [HX.out, HY.out]
        exact (hxPut _ L wx (HRF.out wx hb) (by have := HN.out; omega) HD.out HZ.out).mono fun e w' h => pans_res h
      have hkc : k ≤ cap := by omega
      go_wp2_with (first
        | (go_at_call 12; refine HPUT.out.mono ?_; rintro e w3 ⟨b1, rfl, hs, hb⟩; have HS1 := hide hs; have HB3R := hide hb; have HB3 := hide (HPL.out.bel.trans (hb.mono HWR.out)); clear hs hb)
        | (go_at_call 18; refine (HXP.out _ HB3.out).mono ?_; rintro e w4 ⟨b2, rfl, hs, hb⟩; have HS2 := hide hs; have HB4R := hide (HB3R.out.trans (hb.mono HB3R.out.size)); have HS1B := hide (HS1.out.below hb); have HB4 := hide (HB3.out.trans (hb.mono HB3.out.size)); clear hs hb))
      have HROW4 : Hid (w4.ownsRow w.heap.size 22 1 u5 k ps) := row_mv HPL.out.rooms (fun b hb => HB4R.out.block b (World.ownsRow.lt HPL.out.rooms b hb).2)
      go_loopw [12, 13] (fun i _ wx => ∃ j : Nat, j ≤ k ∧ i = .int .i64 j ∧ wx = w4) (fun i _ _ => k - (intOf i).toNat)
      case atStart => exact ⟨0, Nat.zero_le _, rfl, rfl⟩
      case round =>
        obtain ⟨j, hj, rfl, hwx⟩ := hrel
        subst hwx
        by_cases hlt2 : j < k
        · have hlt2' : (j : Int) < (k : Int) := by omega
          obtain ⟨p, hp⟩ : ∃ p, L[j]? = some p := ⟨L[j]'(by have := HN.out; omega), by simp⟩
          obtain ⟨q, hq⟩ : ∃ q, M[j]? = some q := ⟨M[j]'(by have := HML.out; omega), by simp⟩
          obtain ⟨f, dv⟩ := p
          obtain ⟨f2, dv2⟩ := q
          obtain rfl : f2 = f := by
            have := congrArg (fun l => l[j]?) HPL.out.fst
            simp [hp, hq] at this
            exact this
          have hdl := HD.out _ (List.mem_of_getElem? hp)
          simp only at hdl
          obtain ⟨u, hu, gj, cj, e1, e2, e3, e4, e5, e6⟩ := HEA.out j _ hq
          simp only at e1 e2 e6
          subst e2
          have hsb := sb_mv e6 (HB4R.out.block gj (sb_lt e6 (by simp)))
          obtain ⟨gR, cR, hrv⟩ := own_shape HROW4.out (by omega)
          have rc := World.ownsRow.cells HROW4.out (g := gR) (by rw [hrv]; rfl) j _ hu
          rw [Addr.add_lit, Nat.zero_add] at rc
          have b0 := sb_at hsb (i := f2.dt.length) (by simp)
          have b1 := sb_at hsb (i := f2.dt.length + 1) (by simp)
          have b2 := sb_at hsb (i := f2.dt.length + 2) (by simp)
          simp at b0 b1 b2
          obtain ⟨da, dc, hdv, -⟩ := (HRF.out _ HB4.out).data _ (List.mem_of_getElem? hp)
          simp only at hdv
          subst hdv
          obtain ⟨b, o, c', e, hcell⟩ := (HRF.out _ HB4.out).get j _ hp
          simp only [Value.slice.injEq] at e
          obtain ⟨rfl, -, -⟩ := e
          have c9 := hcell 9 _ rfl
          subst hrv
          obtain ⟨m, hm⟩ : ∃ m, f2.dt.length = m := ⟨_, rfl⟩
          rw [hm] at rc b0 b1 b2 c9 hdl
          have hw1 : IntKind.i64.wrap ((m : Int) + 1) = ((m + 1 : Nat) : Int) := by rw [IntKind.wrap_i64]; omega
          have hw2 : IntKind.i64.wrap ((m : Int) + 2) = ((m + 2 : Nat) : Int) := by rw [IntKind.wrap_i64]; omega
          clear hcell hp hq hsb hu e1 e3 e4 e5 e6 hm
          go_wp2
          go_roundw
          case rel => exact ⟨j + 1, by omega, by go_num, by first | rfl | trivial⟩
          case measure => simp [intOf]; omega
        · obtain rfl : j = k := by omega
          go_wp2_with (first
            | (go_at_call 10; refine (hnum X HXC.out _).mono ?_; rintro e w9 ⟨rfl, hq⟩; have hq2 := hq.symm; clear hq; subst hq2)
            | (go_at_call 17; refine (same_any _ _ _ _ _ HS1B.out HS2.out).mono ?_; rintro e w5 ⟨rfl, n5, h5⟩; rw [show eqB Y Y = true by simp [eqB]]; have HB5 := hide (below_drewN HB4R.out n5); have HB5W := hide (below_drewN HB4.out n5); rw [← h5] at HB5 HB5W; clear h5)
            | (go_at_call 14; refine (halike _ _ M L w5 (HRM.out.keep HB5.out) (HRF.out _ HB5W.out) HPL.out.fst (by have := HML.out; omega)).mono ?_; rintro e w6 ⟨rfl, hb6⟩; have HB6 : Hid (Below w.heap.size w w6) := HB5W.out.trans (hb6.mono HB5W.out.size); have q0 : w6.cell? ⟨g, j * 10, none⟩ = some (.string ⟨#[109, 97, 114, 107]⟩) := (HPL.out.row.keep ((hb6.block g (by have := HB5.out.size; have := HPL.out.row.lt; omega)).trans (HB5.out.block g HPL.out.row.lt))).cell (i := j) (j := 0) (p := mkV) (by rw [List.getElem?_append_right (by have := HML.out; omega), HML.out, Nat.sub_self]; rfl) rfl; clear hb6))
          go_ret
          exact ⟨rfl, HB6.out⟩
end Go.Proofs.YtaeifigbnlffbaaDoor

