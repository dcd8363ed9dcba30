import Derived.Test.YtmjdpfigkojolaaGreatDoorG38Skt
import Derived.Test.YtmjdpfigkojolaaGreatDoorG14QRng
import Derived.Test.YtmjdpfigkojolaaGreatDoorG32Inq
import Derived.Test.YtmjdpfigkojolaaGreatDoorG39Smj
import Derived.BigQuiet
import Derived.Deep.DeepCutAuto
import Derived.Deep.RegionWith
namespace Go.Proofs.YtmjdpfigkojolaaGreatDoor
open Go.RowKit Go.Maps Go.Shelf
attribute [local go_sem] Oper.semAt_some
set_option maxRecDepth 20000
set_option linter.unusedVariables false
set_option linter.unusedSimpArgs false

theorem Chn.cnt22 {d : Bool} {a n b z : Nat} {ps : List Pc} (h : Chn d a n ps b z) : a + 3 * ps.length ≤ b := by
  induction h with
  | nil => simp
  | last => simp; omega
  | go h1 h2 h3 h4 h5 ih => rw [List.length_cons]; omega

def BF (l : List Int) (limit E : Int) (o : List Int) (ps : List Pc) (oo : List Int) : Prop :=
  (¬ (l.length ≤ 33554432 ∧ 0 ≤ limit ∧ limit ≤ 16777216) ∧ ps = [] ∧ oo = [] ∧ E = 1) ∨
  ((l.length ≤ 33554432 ∧ 0 ≤ limit ∧ limit ≤ 16777216) ∧ ∃ q, Txt (unpack l) limit.toNat 0 [] ps E q oo ∧ (E = 0 → o = oo))

theorem bf_of {l : List Int} {limit E : Int} {n : Nat} {o : List Int} (h : Ifl l limit E n o) : ∃ ps oo, BF l limit E o ps oo := by
  rcases h with ⟨a, rfl, rfl, rfl⟩ | ⟨a, ps, q, oo, t, r⟩
  · exact ⟨[], [], .inl ⟨a, rfl, rfl, rfl⟩⟩
  · refine ⟨ps, oo, .inr ⟨a, q, t, fun e => ?_⟩⟩
    rcases r with ⟨-, -, r⟩ | ⟨r, -⟩
    · exact r
    · exact absurd e r

theorem Txt.lastfin {row : List Int} {L p : Nat} {out : List Int} {ps : List Pc} {e : Int} {q : Nat} {o : List Int} (h : Txt row L p out ps e q o) : (ps.getLast?.map (·.fin)).getD false = (e == 0) := by
  induction h with
  | bad h1 h2 => simpa using h2
  | last h1 => rfl
  | @go p out k q o ps e q' o' h1 h2 ih =>
    cases ps with
    | nil => rw [← ih]; rfl
    | cons y ys => rw [← ih, List.getLast?_cons_cons]

theorem BF.fin {l : List Int} {limit E : Int} {o : List Int} {ps : List Pc} {oo : List Int} (h : BF l limit E o ps oo) : finK ps ps.length = (E == 0) := by
  unfold finK
  rw [List.take_of_length_le (Nat.le_refl _)]
  rcases h with ⟨_, rfl, _, rfl⟩ | ⟨_, q, t, _⟩
  · rfl
  · exact t.lastfin

theorem BF.facts {l : List Int} {limit E : Int} {o : List Int} {ps : List Pc} {oo : List Int} (h : BF l limit E o ps oo) (step : Int) {k : Nat} {x : Pc} (hk : ps[k]? = some x) :
    lastA (runM step oo (ps.take k)).1 ≤ x.to0 ∧ (runM step oo (ps.take k)).2.length ≤ x.to0 ∧ (runM step oo (ps.take k)).1.length ≤ 100000000 ∧ (ps.take k).flatMap (sgb oo) = oo.take x.to0 ∧ x.to0 ≤ x.to1 ∧ x.to1 ≤ oo.length ∧ oo.length ≤ 16777216 := by
  rcases h with ⟨_, rfl, _, _⟩ | ⟨hd, q, t, _⟩
  · simp at hk
  · obtain ⟨a, b, c, d, e, f⟩ := run_facts t step hk
    have hlen : (unpack l).length = 8 * l.length := length_unpack l
    have hle := t.le (bit_unpack l) (Nat.zero_le _) (Nat.zero_le _)
    have hcc : 0 + 3 * ps.length ≤ q := (t.chn (bit_unpack l)).cnt22
    have hk2 := (List.getElem?_eq_some_iff.1 hk).1
    exact ⟨a, b, by omega, d, e, f, by omega⟩

theorem ob_ne_pc {w : World} {B c : Nat} {v : Value} {l : List Int} {a : Array Value} (h : OB w B v l) (hc : w.heap[c]? = some (.cells a 36 (0, 0))) : v.ownBlock ≠ some c := by
  intro q
  rcases h.2 with ⟨rfl, _⟩ | ⟨g, cap, cur, rfl, _, hg, _⟩
  · cases q
  · simp only [Value.ownBlock, Option.some.injEq] at q
    subst q
    rw [hc] at hg
    simp at hg

theorem orp_ne_pc {w : World} {B c : Nat} {v : Value} {R : List (Array Value)} {a : Array Value} (h : ORp 70 3 w B v R) (hc : w.heap[c]? = some (.cells a 36 (0, 0))) : v.ownBlock ≠ some c := by
  intro q
  rcases h.2.2 with ⟨rfl, _⟩ | ⟨g, cap, cur, rfl, _, hg, _⟩
  · cases q
  · simp only [Value.ownBlock, Option.some.injEq] at q
    subst q
    rw [hc] at hg
    simp at hg

theorem ix_set0 {w : World} {g : Nat} {sz : Int} {mv kv : Value} (h : w.heap[g]? = some (ixO sz mv kv)) (u : Int) : (w.setCell ⟨g, 0, none⟩ (.int .i64 u)).heap[g]? = some (ixO u mv kv) := by
  rw [heap_setCell_at _ h]; rfl

theorem below_putObj8 {B d : Nat} {a w : World} (h : Below B a w) (hd : B ≤ d) (o : Obj) : Below B a (w.putObj d o) :=
  ⟨h.os, h.tape, h.output, by rw [putObj_size8]; exact h.size, fun b q => (putObj_at8 _ _ (by omega)).trans (h.block b q)⟩

def BAns (w : World) (l : List Int) (limit step : Int) (e : Ending) (w' : World) : Prop :=
  Below w.heap.size w w' ∧ ((step < 1 ∧ e = .returned (.tuple #[.pointer none, .int .i64 1])) ∨ (1 ≤ step ∧ ∃ E n o, Ifl l limit E n o ∧ ((E ≠ 0 ∧ e = .returned (.tuple #[.pointer none, .int .i64 E])) ∨
    (E = 0 ∧ ∃ g ps q mv kv, Txt (unpack l) limit.toNat 0 [] ps 0 q o ∧ e = .returned (.tuple #[.pointer (some ⟨g, 0, none⟩), .int .i64 0]) ∧ w.heap.size ≤ g ∧ Ix w' w.heap.size g o.length (runM step o ps).1 (runM step o ps).2 mv kv ∧ mv.ownBlock ≠ some g ∧ kv.ownBlock ≠ some g ∧ ∀ b, mv.ownBlock = some b → kv.ownBlock ≠ some b))))

set_option maxHeartbeats 8000000 in
theorem hBuild {w : World} {v : Value} {l : List Int} (h : SB w v l) (hB : Byt l) (limit step : Int) (T : Tab w) (O : Odr w) :
    Calls Tryz.prog 8 #[v, .int .i64 limit, .int .i64 step] w (BAns w l limit step) := by
  obtain ⟨E, n, o, hI⟩ : ∃ E n o, Ifl l limit E n o := by
    obtain ⟨e, w', fr, ⟨E, n, o, a, c, h1, -⟩, -⟩ := hInflate h hB limit T O []
    exact ⟨E, n, o, h1⟩
  obtain ⟨ps, oo, hF⟩ := bf_of hI
  obtain ⟨wb, hwb, t0, t1, t2, t3, t4, hsz, hbb⟩ := five (w := w) (.cells #[.int .i64 step] 3) (.cells #[.int .i64 0, .slice none 0 0, .slice none 0 0] 61) (.cells #[.pointer (some ⟨w.heap.size + 1, 0, none⟩)] 29) (.cells #[.slice none 0 0] 22) (.cells #[.bool false] 4)
  have HI := hide hI
  have HF := hide hF
  have HW := hide (And.intro hbb hsz)
  have HC0 := hide (And.intro t0 (And.intro t1 (And.intro t2 (And.intro t3 t4))))
  have HTO : Hid (∀ wx, Below w.heap.size w wx → Tab wx ∧ Odr wx) := fun wx hb => ⟨T.mono hb, O.mono hb⟩
  have HSB : Hid (∀ wx, Below w.heap.size w wx → SB wx v l) := fun wx hb => h.below hb
  have HBY := hide hB
  have HBL := hide (hBlocks (h.below hbb) limit)
  obtain ⟨a0, c0, rfl, -⟩ := h
  clear hB hI hF T O t0 t1 t2 t3 t4 hsz hbb
  refine (callsIn_wide (n := 3)).1 ?_
  refine callsIn_of_wp_marks Tryz.func8 rfl trivial ?_ rfl
  refine wpIn_noPan ?_
  refine wpIn_wide.2 ?_
  simp only [Tryz.ntmps8, List.size_toArray, List.length_cons, List.length_nil, Nat.reduceAdd, Nat.reduceSub, Array.replicate_succ, Array.replicate_zero, List.push_toArray, List.append_toArray, List.nil_append, List.cons_append]
  by_cases hst : step < 1
  · clear HI HF HBL HSB HTO HC0 HW HBY
    go_wp2
    have hb1 : Below w.heap.size w (w.alloc (.cells #[.int .i64 step] 3)) := (Below.refl _ _).alloc (Nat.le_refl _) _
    refine ⟨.tuple #[.pointer none, .int .i64 1], ?_, hb1, .inl ⟨hst, rfl⟩⟩
    simp [results, Tryz.f8, go_sem]
  · have hst1 : (1 : Int) ≤ step := by omega
    go_wp2_with fail
    rw [← hwb]
    refine HBL.out.mono ?_
    rintro e w2 ⟨hb2, hcs⟩
    have HB2 := hide hb2
    obtain ⟨f7, cs7, u7, he7, HIT⟩ : ∃ f7 cs7 u, e = .returned (.func f7 #[] cs7) ∧ Hid ((Value.func f7 #[] cs7 = .func (.func 45) #[] #[] ∧ ps = []) ∨ (Value.func f7 #[] cs7 = .func (.func 46) #[] #[.pointer (some ⟨wb.heap.size, 0, none⟩), .pointer (some ⟨wb.heap.size + 1, 0, none⟩)] ∧ (l.length ≤ 33554432 ∧ 0 ≤ limit ∧ limit ≤ 16777216) ∧ (∃ E q0, Txt (unpack l) limit.toNat 0 [] ps E q0 oo) ∧ w2.heap[wb.heap.size]? = some (.cells #[u] 22 (0, 0)) ∧ w2.heap[wb.heap.size + 1]? = some (.cells #[.int .i64 limit] 3 (0, 0)) ∧ OB w2 (wb.heap.size + 2) u l)) := by
      rcases hcs with ⟨hd, rfl⟩ | ⟨hd, u, rfl, q1, q2, q3⟩
      · refine ⟨_, _, .nilFunc, rfl, .inl ⟨rfl, ?_⟩⟩
        rcases HF.out with ⟨_, q, _⟩ | ⟨q, _⟩
        · exact q
        · exact absurd q hd
      · refine ⟨_, _, u, rfl, .inr ⟨rfl, hd, ?_, q1, q2, q3⟩⟩
        rcases HF.out with ⟨q, _⟩ | ⟨_, q, t, _⟩
        · exact absurd hd q
        · exact ⟨_, _, t⟩
    subst he7
    have HKP : Hid (∀ b, b < wb.heap.size → w2.heap[b]? = wb.heap[b]?) := fun b hb => hb2.block b hb
    clear hcs HBL hwb hb2
    have HZ : Hid (wb.heap.size = w.heap.size + 5 ∧ wb.heap.size ≤ w2.heap.size) := ⟨HW.out.2, HB2.out.size⟩
    go_wp2_with fail
    have hz := HZ.out
    have HBW : Hid (∀ k S o W, SkJ ps oo step w2 w2.heap.size (w.heap.size + 1) (w.heap.size + 1 + 1 + 1) (w.heap.size + 1 + 1 + 1 + 1) k S o W → Below w.heap.size w W) := fun k S o W hj =>
      ⟨hj.os.trans (HB2.out.os.trans HW.out.1.os), hj.tape.trans (HB2.out.tape.trans HW.out.1.tape), hj.output.trans (HB2.out.output.trans HW.out.1.output), by have := hj.size; omega, fun b hb => (hj.blk b (by omega) (by omega) (by omega) (by omega)).trans ((HKP.out b (by omega)).trans (HW.out.1.block b hb))⟩
    refine wp_blocks_any wb.heap.size (wb.heap.size + 1) (data := l) (limit := limit) (ps := ps) (o0 := oo) (v := u7) (SkJ ps oo step w2 w2.heap.size (w.heap.size + 1) (w.heap.size + 1 + 1 + 1) (w.heap.size + 1 + 1 + 1 + 1)) (fun _ _ _ => False) ?hit rfl HBY.out (SkJ.recs (by omega) (by omega) (by omega)) (fun k S o W h e => by have := h.sge _ e; omega) (fun c => ⟨fun o V h => h.elim, fun o o' V h => h.elim⟩)
      (SkJ.bears (by omega) (by omega) (by omega)) (fun o k S W B hj h1 h2 => ?tab) (fun k S o W hj => hj.size) (SkJ.start ?i0 ?p0 ?w0) ?act ?assign ?body ?done ?stop
    case i0 => exact (HKP.out _ (by omega)).trans HC0.out.2.1
    case p0 => exact (HKP.out _ (by omega)).trans HC0.out.2.2.2.1
    case w0 => exact (HKP.out _ (by omega)).trans HC0.out.2.2.2.2
    case hit =>
      rcases HIT.out with ⟨q1, q2⟩ | ⟨q1, q2, q3, q4, q5, q6⟩
      · exact .inl ⟨q1, q2⟩
      · refine .inr ⟨q1, q2, q3, fun o W hj => ?_⟩
        have l5 := (Array.getElem?_eq_some_iff.1 q5).1
        have l4 := (Array.getElem?_eq_some_iff.1 q4).1
        have kk : ∀ b, b < w2.heap.size → wb.heap.size ≤ b → W.heap[b]? = w2.heap[b]? := fun b q1 q2 => hj.blk b q1 (by omega) (by omega) (by omega)
        exact ⟨(q6.move fun b hb => kk b (q6.lt b hb).2 (by have := (q6.lt b hb).1; omega)).sb, (one_cell ((kk _ l4 (by omega)).trans q4)).1, (one_cell ((kk _ l5 (by omega)).trans q5)).1⟩
    case tab => exact HTO.out _ (below_wtake (HBW.out _ _ _ _ hj) (by omega) h2)
    case assign =>
      intro x u V c K hc hK
      simp only [pcq] at hK ⊢
      gi_wp2
      exact hK
    case stop => exact fun c o V h => h.elim
    case done =>
      intro S ob V hj
      obtain ⟨mv, kv, vt, e1, e2, e3, e4⟩ := hj.var
      rw [List.take_of_length_le (Nat.le_refl _)] at e1 e3
      have hwl := hj.whl
      rw [HF.out.fin] at hwl
      have HBV := hide (HBW.out _ _ _ _ hj)
      have hdz := hj.size
      have HDF : Hid (V.heap[w2.heap.size]? = some (.deferred (some []))) := hj.dfr
      have kX : V.cell? ⟨w.heap.size + 1 + 1, 0, none⟩ = some (.pointer (some ⟨w.heap.size + 1, 0, none⟩)) := (one_cell ((hj.blk _ (by omega) (by omega) (by omega) (by omega)).trans ((HKP.out _ (by omega)).trans HC0.out.2.2.1))).1
      have kW := (one_cell hwl).1
      have kP := (one_cell e2).1
      have HE := hide (And.intro e1 (And.intro e3 e4))
      clear hwl e1 e2 e3 e4 hj
      by_cases hE : E = 0
      · subst hE
        rcases HF.out with ⟨_, _, _, q⟩ | ⟨hd, q, ht, ho⟩
        · cases q
        have hoo := ho rfl
        subst hoo
        have hall := ht.segs
        rw [List.nil_append] at hall
        rw [hall] at HE
        have HT := hide ht
        obtain ⟨at', ct, rfl⟩ := HE.out.2.1.shape
        obtain ⟨x0, x1, x2, xf⟩ := ixO_cells HE.out.1.box
        have xf0 := xf 0
        simp only [show ((0 : Int) == 0) = true from rfl] at kW
        clear ho ht hall xf x1 x2
        go_wp2
        have hD' : (V.setCell ⟨w.heap.size + 1, 0, none⟩ (.int .i64 o.length)).heap[w2.heap.size]? = some (.deferred (some [])) := (setCell_others _ _ _ _ _ (by omega)).trans HDF.out
        have lm := HE.out.1.marks.lt
        have lk := HE.out.1.kept.lt
        have ku : ∀ b, w2.heap.size + 2 ≤ b → ((V.setCell ⟨w.heap.size + 1, 0, none⟩ (.int .i64 o.length)).putObj w2.heap.size (.deferred none)).heap[b]? = V.heap[b]? := fun b hb => (putObj_at8 _ _ (by omega)).trans (setCell_others _ _ _ _ _ (by omega))
        refine ⟨by simp, .inl ⟨_, _, rfl, run_takeDeferred hD', ?_⟩⟩
        refine ⟨.tuple #[.pointer (some ⟨w.heap.size + 1, 0, none⟩), .int .i64 0], ?_, below_putObj8 (HBV.out.setCell (p := ⟨w.heap.size + 1, 0, none⟩) (Nat.le_succ _) _) (by omega) _, .inr ⟨hst1, 0, n, o, HI.out, .inr ⟨rfl, w.heap.size + 1, ps, q, mv, kv, HT.out, rfl, Nat.le_succ _, ⟨?_, ?_, ?_⟩, fun e => by have := (lm _ e).1; omega, fun e => by have := (lk _ e).1; omega, HE.out.2.2.mk'⟩⟩⟩
        · simp [results, Tryz.f8, go_sem]
        · exact (putObj_at8 _ _ (by omega)).trans (ix_set0 HE.out.1.box _)
        · exact (HE.out.1.marks.move fun b hb => ku b (lm b hb).1).base (by omega)
        · exact (HE.out.1.kept.move fun b hb => ku b (lk b hb).1).base (by omega)
      · have hne : (E == 0) = false := by simpa using hE
        rw [hne] at kW
        have HINF := hide (hInflate (HSB.out V HBV.out) HBY.out limit (HTO.out V HBV.out).1 (HTO.out V HBV.out).2)
        go_wp2_with fail
        refine HINF.out.mono ?_
        rintro e w9 ⟨E', n', o', a9, c9, hI9, rfl, -, hb9⟩
        obtain ⟨rfl, -, -⟩ := HI.out.det hI9
        have HB9 := hide hb9
        have HD9 : Hid (w9.heap[w2.heap.size]? = some (.deferred (some []))) := (hb9.block _ (by omega)).trans HDF.out
        clear hb9 hI9 HINF kX kW kP
        go_wp2
        refine ⟨by simp, .inl ⟨_, _, rfl, run_takeDeferred HD9.out, ?_⟩⟩
        refine ⟨.tuple #[.pointer none, .int .i64 E], ?_, below_putObj8 (HBV.out.trans (HB9.out.mono (by omega))) (by omega) _, .inr ⟨hst1, E, n, o, HI.out, .inl ⟨hE, rfl⟩⟩⟩
        simp [results, Tryz.f8, go_sem]
    case body =>
      intro k x S ob V c u hk hj hS hc hcl hcS ho hu
      obtain ⟨f1, f2, f3, f4, f5, f6, f7⟩ := HF.out.facts step hk
      obtain ⟨mv, kv, vt, e1, e2, e3, e4⟩ := hj.var
      have HNE := hide (And.intro (ob_ne_pc e1.kept hc) (And.intro (orp_ne_pc e1.marks hc) (ob_ne_pc e3 hc)))
      have kS : V.cell? ⟨w.heap.size, 0, none⟩ = some (.int .i64 step) := (one_cell ((hj.blk _ (by omega) (by omega) (by omega) (by omega)).trans ((HKP.out _ (by omega)).trans HC0.out.1))).1
      have kX : V.cell? ⟨w.heap.size + 1 + 1, 0, none⟩ = some (.pointer (some ⟨w.heap.size + 1, 0, none⟩)) := (one_cell ((hj.blk _ (by omega) (by omega) (by omega) (by omega)).trans ((HKP.out _ (by omega)).trans HC0.out.2.2.1))).1
      have hsz := hj.size
      obtain ⟨kk, ff, A0, A1, N0, N1⟩ := x
      have hcv : V.heap[c]? = some (pcO kk ff A0 A1 N0 N1) := hc
      obtain ⟨c0, c1, c2, c3, c4, c5, -⟩ := pc_cells hcv
      simp only at f1 f2 f4 f5 f6
      have HASK := hide (hasks e1 (by omega) (by omega) N0 (by omega) step)
      have HJ := hide hj
      have HK := hide hk
      have HS := hide hS
      have HU0 := hide hu
      have HO := hide ho
      have HE := hide (And.intro e1 (And.intro e2 e3))
      have HOF := hide e4
      have HC := hide hc
      have HFA := hide (And.intro f1 (And.intro f2 (And.intro f3 (And.intro f4 (And.intro f5 (And.intro f6 f7))))))
      clear hj hk hS hu ho e1 e2 e3 e4 hc hcv f1 f2 f3 f4 f5 f6 f7
      gi_wp2_with fail
      refine ⟨trivial, (CallsIn.inRound _ (callsIn_wide.2 HASK.out)).mono ?_⟩
      rintro e V1 ⟨rfl, nq, hV1⟩
      have HJ1 : Hid (SkJ ps oo step w2 w2.heap.size (w.heap.size + 1) (w.heap.size + 1 + 1 + 1) (w.heap.size + 1 + 1 + 1 + 1) k S ob V1) := by rw [hV1]; exact HJ.out.heap rfl rfl rfl rfl
      have HIX : Hid (Ix V1 (w2.heap.size + 2) (w.heap.size + 1) 0 (runM step oo (ps.take k)).1 (runM step oo (ps.take k)).2 mv kv) := by rw [hV1]; exact HE.out.1.heap rfl
      have HG1 : Hid (V.heap.size = V1.heap.size ∧ ∀ b : Nat, V1.heap[b]? = V.heap[b]?) := by rw [hV1]; exact ⟨rfl, fun _ => rfl⟩
      have HP1 : Hid (V1.heap[w.heap.size + 1 + 1 + 1]? = some (.cells #[vt] 22 (0, 0))) := (HG1.out.2 _).trans HE.out.2.1
      have HC1 : Hid (V1.heap[c]? = some (.cells (pcq ⟨kk, ff, A0, A1, N0, N1⟩) 36 (0, 0))) := (HG1.out.2 _).trans HC.out
      have HS1 : Hid (∀ b, S b → b < V1.heap.size) := fun b hb => by rw [← HG1.out.1]; exact HS.out b hb
      obtain ⟨Q, HQ⟩ : ∃ Q, Hid (Q = (ps.take k).flatMap (sgb oo)) := ⟨_, rfl⟩
      have HQ1 : Hid (OB V1 (w2.heap.size + 2) vt Q) := by rw [HQ.out]; exact HE.out.2.2.move fun b _ => HG1.out.2 b
      obtain ⟨sgm, HSG⟩ : ∃ sgm, Hid (sgm = sgb oo ⟨kk, ff, A0, A1, N0, N1⟩) := ⟨_, rfl⟩
      have ho1 : OB V1 0 u sgm := by rw [HSG.out]; exact HO.out.move fun b _ => HG1.out.2 b
      have HQL : Hid (Q = oo.take N0 ∧ Q.length = N0 ∧ sgm.length ≤ 16777216) := by
        obtain ⟨f1, f2, f3, f4, f5, f6, f7⟩ := HFA.out
        refine ⟨HQ.out.trans f4, ?_, ?_⟩
        · rw [HQ.out, f4, List.length_take]; omega
        · rw [HSG.out]; unfold sgb; rw [List.length_take, List.length_drop]; simp only; omega
      have HLB : Hid (Q.length + sgm.length ≤ 140737488355328) := by show _ ≤ _; have := HQL.out; have := HFA.out; omega
      obtain ⟨D, HD⟩ : ∃ D : Nat, Hid (D = sgm.length) := ⟨_, rfl⟩
      obtain ⟨ua, uc, hua⟩ : ∃ ua uc, u = .slice ua D uc := by
        obtain ⟨ua, uc, e⟩ := ho1.shape
        exact ⟨ua, uc, by rw [e, HD.out]⟩
      subst hua
      have HO1 := hide ho1
      have HU : Hid (∀ b, (Value.slice ua D uc).ownBlock = some b → S b) := HU0.out
      obtain ⟨at', ct, hvt⟩ := HQ1.out.shape
      subst hvt
      have j0 : V1.cell? ⟨w.heap.size + 1 + 1, 0, none⟩ = some (.pointer (some ⟨w.heap.size + 1, 0, none⟩)) := by rw [hV1]; exact kX
      have j1 := (one_cell HP1.out).1
      have hcv1 : V1.heap[c]? = some (pcO kk ff A0 A1 N0 N1) := HC1.out
      obtain ⟨g0, g1, g2, g3, g4, g5, -⟩ := pc_cells hcv1
      have hmg : mv.ownBlock ≠ some (w.heap.size + 1) := fun e => by have := (HIX.out.marks.lt _ e).1; omega
      have hkg : kv.ownBlock ≠ some (w.heap.size + 1) := fun e => by have := (HIX.out.kept.lt _ e).1; omega
      have HMG := hide (And.intro hmg hkg)
      clear hV1 ho1 kX kS c0 c1 c2 c3 c4 c5 hcv1 hmg hkg
      by_cases ha : asksB step (runM step oo (ps.take k)).1 N0 = true
      · have HST : Hid (stepM step oo (runM step oo (ps.take k)) ⟨kk, ff, A0, A1, N0, N1⟩ = addM (oo.take N0) (runM step oo (ps.take k)) ⟨kk, ff, A0, A1, N0, N1⟩) := by show _ = _; unfold stepM; rw [if_pos ha]
        have HADD := hide (haddMark (pl := Q) HIX.out HQ1.out ⟨kk, ff, A0, A1, N0, N1⟩ HQL.out.2.1.symm (by have := HFA.out; omega) (by rw [HQL.out.2.1]; exact HFA.out.1) (by rw [HQL.out.2.1]; have := HFA.out; omega) (by have := HFA.out; omega) HJ1.out.size HMG.out.2 HMG.out.1 HOF.out.mk')
        rw [ha]
        gi_wp2_with fail
        refine ⟨trivial, (CallsIn.inRound _ (callsIn_wide.2 HADD.out)).mono ?_⟩
        rintro e w6 ⟨rfl, mv', kv', hA⟩
        have HM1 : Hid (Mvb (fun b => b = w.heap.size + 1 ∨ kv.ownBlock = some b ∨ mv.ownBlock = some b) V1 w6) := ⟨hA.mv2.os, hA.mv2.tape, hA.mv2.output, hA.mv2.size, hA.mv2.blk⟩
        have HA1 : Hid (Ix w6 (w2.heap.size + 2) (w.heap.size + 1) 0 (stepM step oo (runM step oo (ps.take k)) ⟨kk, ff, A0, A1, N0, N1⟩).1 (stepM step oo (runM step oo (ps.take k)) ⟨kk, ff, A0, A1, N0, N1⟩).2 mv' kv' ∧ (∀ b, kv'.ownBlock = some b → kv.ownBlock = some b ∨ V1.heap.size ≤ b) ∧ (∀ b, mv'.ownBlock = some b → mv.ownBlock = some b ∨ V1.heap.size ≤ b) ∧ ∀ b, mv'.ownBlock = some b → kv'.ownBlock ≠ some b) := by
          rw [HST.out, ← HQL.out.1]
          exact ⟨hA.ix, hA.kb, hA.mb, hA.sep⟩
        clear hA HADD j0 j1 g0 g1 g2 g3 g4 g5
        obtain ⟨q1, q2, q3, q4, q5, q6⟩ := HJ1.out.mid (x := ⟨kk, ff, A0, A1, N0, N1⟩) (u := .slice ua D uc) (c := c) (by omega) (by omega) (by omega) (by omega) (by omega) HS1.out HU.out HIX.out HP1.out (by rw [← HQ.out]; exact HQ1.out) HOF.out (by rw [← HSG.out]; exact HO1.out) HC1.out hcl HNE.out.1 HNE.out.2.1 HM1.out
        rw [← HSG.out] at q3
        rw [← HQ.out] at q2
        have HQ6 := hide (And.intro q1 (And.intro q2 (And.intro q4 (And.intro q5 q6))))
        have q3s := q3.sb.src
        have HUS := hide q3s
        have k7 := (one_cell q1).1
        have k8 := (one_cell q1).2
        clear q1 q2 q3 q3s q4 q5 q6
        gi_wp2_with (gi_at_builtin; refine wpBytIn rfl _ _ rfl (w2.heap.size + 2) (.slice at' Q.length ct) (.slice ua D uc) Q sgm rfl HQ6.out.2.1 rfl (by have := HUS.out; rw [HD.out] at this ⊢; exact this) HLB.out HQ6.out.2.2.2.2 ?_)
        intro v9 w9 ho9 hg9
        obtain ⟨r1, r2, r3, r4⟩ := HJ1.out.fin (x := ⟨kk, ff, A0, A1, N0, N1⟩) (u := .slice ua D uc) (c := c) (by omega) (by omega) (by omega) (by omega) (by omega) (by omega) HS1.out HK.out HIX.out (by rw [← HQ.out]; exact HQ1.out) HOF.out HM1.out HA1.out.1 HA1.out.2.1 HA1.out.2.2.1 HA1.out.2.2.2 HQ6.out.1 (by rw [← HQ.out]; exact HQ6.out.2.1) HQ6.out.2.2.1 HQ6.out.2.2.2.1 HQ6.out.2.2.2.2 hcl HNE.out.2.2 (by rw [← HQ.out, ← HSG.out]; exact ho9) hg9
        obtain ⟨a9, c9, hv9⟩ := ho9.shape
        obtain ⟨M9, hM9⟩ : ∃ M9, (Q ++ sgm).length = M9 := ⟨_, rfl⟩
        rw [hM9] at hv9
        subst hv9
        have HR4 := hide r4
        have k9 := (one_cell r1).1
        have k10 := (one_cell r1).2
        obtain ⟨-, z1, -, -, -, -, -⟩ := pc_cells (k := kk) (f := ff) (a := A0) (b := A1) (c := N0) (d := N1) r2
        have k11 := (one_cell r3).1
        have k12 := (one_cell r3).2
        clear r1 r2 r3 r4 ho9 hg9 k7 k8
        gi_wp2
        exact ⟨HR4.out.1, fun b p1 p2 => (HR4.out.2.1 b p1 p2).trans (HG1.out.2 b), by rw [HG1.out.1]; exact HR4.out.2.2⟩
      · have HST : Hid (stepM step oo (runM step oo (ps.take k)) ⟨kk, ff, A0, A1, N0, N1⟩ = runM step oo (ps.take k)) := by show _ = _; unfold stepM; rw [if_neg ha]
        have haf : asksB step (runM step oo (ps.take k)).1 N0 = false := by simpa using ha
        have HM1 : Hid (Mvb (fun b => b = w.heap.size + 1 ∨ kv.ownBlock = some b ∨ mv.ownBlock = some b) V1 V1) := ⟨rfl, rfl, rfl, Nat.le_refl _, fun _ _ _ => rfl⟩
        have HA1 : Hid (Ix V1 (w2.heap.size + 2) (w.heap.size + 1) 0 (stepM step oo (runM step oo (ps.take k)) ⟨kk, ff, A0, A1, N0, N1⟩).1 (stepM step oo (runM step oo (ps.take k)) ⟨kk, ff, A0, A1, N0, N1⟩).2 mv kv ∧ (∀ b, kv.ownBlock = some b → kv.ownBlock = some b ∨ V1.heap.size ≤ b) ∧ (∀ b, mv.ownBlock = some b → mv.ownBlock = some b ∨ V1.heap.size ≤ b) ∧ ∀ b, mv.ownBlock = some b → kv.ownBlock ≠ some b) := by
          rw [HST.out]
          exact ⟨HIX.out, fun b h => .inl h, fun b h => .inl h, HOF.out.mk'⟩
        rw [haf]
        clear j0 j1 g0 g1 g2 g3 g4 g5
        obtain ⟨q1, q2, q3, q4, q5, q6⟩ := HJ1.out.mid (x := ⟨kk, ff, A0, A1, N0, N1⟩) (u := .slice ua D uc) (c := c) (by omega) (by omega) (by omega) (by omega) (by omega) HS1.out HU.out HIX.out HP1.out (by rw [← HQ.out]; exact HQ1.out) HOF.out (by rw [← HSG.out]; exact HO1.out) HC1.out hcl HNE.out.1 HNE.out.2.1 HM1.out
        rw [← HSG.out] at q3
        rw [← HQ.out] at q2
        have HQ6 := hide (And.intro q1 (And.intro q2 (And.intro q4 (And.intro q5 q6))))
        have q3s := q3.sb.src
        have HUS := hide q3s
        have k7 := (one_cell q1).1
        have k8 := (one_cell q1).2
        clear q1 q2 q3 q3s q4 q5 q6
        gi_wp2_with (gi_at_builtin; refine wpBytIn rfl _ _ rfl (w2.heap.size + 2) (.slice at' Q.length ct) (.slice ua D uc) Q sgm rfl HQ6.out.2.1 rfl (by have := HUS.out; rw [HD.out] at this ⊢; exact this) HLB.out HQ6.out.2.2.2.2 ?_)
        intro v9 w9 ho9 hg9
        obtain ⟨r1, r2, r3, r4⟩ := HJ1.out.fin (x := ⟨kk, ff, A0, A1, N0, N1⟩) (u := .slice ua D uc) (c := c) (by omega) (by omega) (by omega) (by omega) (by omega) (by omega) HS1.out HK.out HIX.out (by rw [← HQ.out]; exact HQ1.out) HOF.out HM1.out HA1.out.1 HA1.out.2.1 HA1.out.2.2.1 HA1.out.2.2.2 HQ6.out.1 (by rw [← HQ.out]; exact HQ6.out.2.1) HQ6.out.2.2.1 HQ6.out.2.2.2.1 HQ6.out.2.2.2.2 hcl HNE.out.2.2 (by rw [← HQ.out, ← HSG.out]; exact ho9) hg9
        obtain ⟨a9, c9, hv9⟩ := ho9.shape
        obtain ⟨M9, hM9⟩ : ∃ M9, (Q ++ sgm).length = M9 := ⟨_, rfl⟩
        rw [hM9] at hv9
        subst hv9
        have HR4 := hide r4
        have k9 := (one_cell r1).1
        have k10 := (one_cell r1).2
        obtain ⟨-, z1, -, -, -, -, -⟩ := pc_cells (k := kk) (f := ff) (a := A0) (b := A1) (c := N0) (d := N1) r2
        have k11 := (one_cell r3).1
        have k12 := (one_cell r3).2
        clear r1 r2 r3 r4 ho9 hg9 k7 k8
        gi_wp2
        exact ⟨HR4.out.1, fun b p1 p2 => (HR4.out.2.1 b p1 p2).trans (HG1.out.2 b), by rw [HG1.out.1]; exact HR4.out.2.2⟩
end Go.Proofs.YtmjdpfigkojolaaGreatDoor

