import Derived.Test.YtfoglaajnlbnbaaGreatDoorG47Inq
import Derived.Test.YtfoglaajnlbnbaaGreatDoorG04OpenA
import Derived.Test.YtfoglaajnlbnbaaGreatDoorG40Xck
import Derived.Test.YtfoglaajnlbnbaaGreatDoorG00Tkw
import Derived.Test.YtfoglaajnlbnbaaGreatDoorG19Fxc
import Derived.Test.YtfoglaajnlbnbaaGreatDoorG32Wbz
namespace Go.Proofs.YtfoglaajnlbnbaaGreatDoor
open Go.RowKit Go.Maps
set_option maxRecDepth 20000
set_option linter.unusedVariables false
set_option linter.unusedSimpArgs false

theorem wpList_mkP {w : World} {ops : Array Oper} {rest : List Oper} {o : Oper} {a : Act} {Q : Exit → Act → World → Prop} (hg : o.guard = none) (l c : Operand) (hop : o.op = Op.makeSlice 22 l c)
    (kl kc : IntKind) (hl : a.eval l = .int kl 0) (hc : a.eval c = .int kc 0)
    (hK : ∀ w', OP w' w.heap.size (.slice (some ⟨w.heap.size, 0, none⟩) 0 0) [] → Below w.heap.size w w' → w.heap.size < w'.heap.size → wpList Tryz.prog ops Q rest (a.put o.dst (.slice (some ⟨w.heap.size, 0, none⟩) 0 0)) w') :
    wpList Tryz.prog ops Q (o :: rest) a w := by
  obtain ⟨i0, hi, hz0, hz1, hz2⟩ := info_parts infoPart
  refine wpList_plain hg fun K hK' => ?_
  have hr := run_make (P := Tryz.prog) w 22 25 i0 _ Tryz.underlying22 hi hz0 kl kc 0 0 (by omega) (by omega) (by rw [hz2]; omega) (by omega)
  unfold Oper.wp
  simp [execOp, hop, hl, hc, hr, Result.andThen]
  refine hK' _ _ (hK _ ⟨by simp [flP], .inr ⟨_, 0, _, rfl, Nat.le_refl _, heap_alloc_new _ _, by simp, by unfold maxLen; omega, by simp [madeCells], by simp [madeCells, flP]⟩⟩ ((Below.refl _ _).alloc (Nat.le_refl _) _) (by simp))

theorem SG.below {w w' : World} {sz : Nat} {x : Value} {m : Nat} {news : List Value} (h : SG w sz x m news) (hb : Below w.heap.size w w') : SG w' sz x m news := by
  rcases h with ⟨a, c, rfl, h1, h2, h3⟩ | h
  · refine .inl ⟨a, c, rfl, h1, fun j u hu => ?_, h3⟩
    have c0 := h2 0 _ (List.getElem?_eq_getElem (show 0 < news.length from Nat.lt_of_le_of_lt (Nat.zero_le _) (List.getElem?_eq_some_iff.1 hu).1))
    obtain ⟨b, o, rfl⟩ := addr_lit c0
    have cj := h2 j u hu
    have hlt := World.block_lt_of_cell? _ _ cj
    rw [Addr.add_lit] at cj hlt ⊢
    rw [World.cell?_of_block (w := w) (hb.block b hlt)]
    exact cj
  · exact .inr h

theorem sd_of {R : List Tk} (h : asnd R = true) (hl : lsay R ≤ 65535) : sdE R = 0 := by
  unfold sdE
  rw [if_pos h, if_neg (by omega)]

theorem take_snocP {qs : List Pt} {j : Nat} {p : Pt} (h : qs[j]? = some p) : qs.take (j + 1) = qs.take j ++ [p] := by
  rw [List.take_add_one, h]
  rfl

theorem one_sg (w : World) (u : Value) (k : Int) (h : u.oneCell' = true) : SG (w.alloc (.cells #[u, .int .i64 k] 25)) 2 (.slice (some ⟨w.heap.size, 0, none⟩) 1 1) 1 [u, .int .i64 k] := by
  refine .inl ⟨_, _, rfl, rfl, fun j x hx => ?_, fun x hx => ?_⟩
  · rw [Addr.add_lit]
    unfold World.cell?
    simp only [heap_alloc_new, Nat.zero_add]
    simpa using hx
  · simp at hx
    rcases hx with rfl | rfl
    · exact h
    · rfl

noncomputable def rwj (qs : List Pt) (j : Nat) : List Int := if j < qs.length then preB [] 0 (pts (qs.take j)) else rowB [] 0 (pts qs)

theorem rwj_zero {qs : List Pt} (h : 1 ≤ qs.length) : rwj qs 0 = [] := by
  unfold rwj
  rw [if_pos (by omega)]
  rfl

theorem tksP_split {qs : List Pt} {j : Nat} {p : Pt} (h : qs[j]? = some p) : ∃ r, tksP qs = tksP (qs.take j) ++ (p.2.1 ++ r) := by
  refine ⟨tksP (qs.drop (j + 1)), ?_⟩
  have e : qs = qs.take (j + 1) ++ qs.drop (j + 1) := (List.take_append_drop _ _).symm
  have f : ∀ a b : List Pt, tksP (a ++ b) = tksP a ++ tksP b := fun a b => by simp [tksP]
  conv => lhs; rw [e, take_snocP h, f, f]
  rw [List.append_assoc]
  simp [tksP]

theorem Pok.at {qs : List Pt} {A B : Int} {j : Nat} {u : Value} {S : List Tk} {kd : Int} (h : Pok qs A) (hB : Pok (qs.take j) B) (hj : qs[j]? = some (u, S, kd)) : sdE S = 0 ∧ (∀ t ∈ S, Bt t) ∧ 0 ≤ kd ∧ kd ≤ 2 ∧ nrA B S = true ∧ B + lsay S ≤ A := by
  obtain ⟨e1, e2, e3, e4⟩ := h.each _ (List.mem_of_getElem? hj)
  obtain ⟨r, er⟩ := tksP_split hj
  have hn := h.near
  have ht := h.tot
  simp only at er
  rw [er, nrA_app, nrA_app, Int.zero_add, ← hB.tot] at hn
  simp only [Bool.and_eq_true] at hn
  rw [er, lsay_ap10, lsay_ap10, ← hB.tot] at ht
  have hr0 : 0 ≤ lsay r := by
    have := snd_le r (fun t ht => (h.snd t (by rw [er]; simp [ht])).1)
    omega
  exact ⟨e1, e2, e3, e4, hn.2.1, by omega⟩

theorem raw_at {qs : List Pt} {A : Int} {B m : Nat} {j : Nat} {u : Value} {S : List Tk} {kd : Int} (h : Pok qs A) (hB : Pok (qs.take j) (B : Int)) (hj : qs[j]? = some (u, S, kd)) (hm : lsay S = (m : Int)) :
    ((exT [] (tksP qs)).drop B).take m = (exT (exT [] (tksP (qs.take j))) S).drop (exT [] (tksP (qs.take j))).length := by
  obtain ⟨r, er⟩ := tksP_split hj
  obtain ⟨p1, p2, p3, p4, p5, p6⟩ := h.at hB hj
  have l1 := (hB.text (Int.le_refl _)).2
  have l1' : (exT [] (tksP (qs.take j))).length = B := by omega
  have l2 := (ex_ok (lim := (B : Int) + m) S (exT [] (tksP (qs.take j))) (fun t ht => (asnd_all10 (sd_ok p1).1 p2 t ht).1) (by rw [l1]; exact p5) (by omega)).2
  have l2' : (exT (exT [] (tksP (qs.take j))) S).length = B + m := by omega
  simp only at er
  rw [er, ext_app, ext_app]
  have q := (pre_exT10 r (exT (exT [] (tksP (qs.take j))) S)).2
  rw [l2'] at q
  rw [List.take_drop, q, l1']

theorem rwj_step {qs : List Pt} {A : Int} {B m : Nat} {j : Nat} {u : Value} {S : List Tk} {kd : Int} (h : Pok qs A) (hB : Pok (qs.take j) (B : Int)) (hj : qs[j]? = some (u, S, kd)) (hm : lsay S = (m : Int)) :
    rwj qs (j + 1) = rwj qs j ++ blkB kd.toNat (decide (j + 1 = qs.length)) S (((exT [] (tksP qs)).drop B).take m) (rwj qs j).length := by
  have hlt : j < qs.length := (List.getElem?_eq_some_iff.1 hj).1
  have e0 : rwj qs j = preB [] 0 (pts (qs.take j)) := by unfold rwj; rw [if_pos hlt]
  rw [raw_at h hB hj hm, e0, ← row_pts10]
  by_cases hl : j + 1 < qs.length
  · have e1 : rwj qs (j + 1) = preB [] 0 (pts (qs.take (j + 1))) := by unfold rwj; rw [if_pos hl]
    rw [e1, take_snocP hj, ptP_snoc, preB_snoc, Nat.zero_add, decide_eq_false (by omega)]
  · have e1 : rwj qs (j + 1) = rowB [] 0 (pts (qs.take (j + 1))) := by unfold rwj; rw [if_neg hl, List.take_of_length_le (by omega)]
    rw [e1, take_snocP hj, ptP_snoc, rowB_snoc, Nat.zero_add, decide_eq_true (by omega)]

theorem raw_src {w : World} {a : Option Addr} {c : Nat} {X rw : List Int} {B m : Nat} (h : SB w (.slice a X.length c) X) (hr : (X.drop B).take m = rw) (hB : B + m ≤ X.length) (hp : 0 < m) : ∃ ad, Option.map (fun x => x.add B) a = some ad ∧ ∀ i z, (rw.map (Value.int .u8))[i]? = some z → w.cell? (ad.add i) = some z := by
  obtain ⟨ao, cap, he, h1, h2, h3, h4⟩ := h
  simp only [Value.slice.injEq] at he
  obtain ⟨rfl, -, rfl⟩ := he
  cases a with
  | none => have := h3 rfl; omega
  | some x =>
    have q0 := h4 x rfl 0 (by omega)
    obtain ⟨b, o, rfl⟩ := addr_lit q0
    refine ⟨_, rfl, fun i z hz => ?_⟩
    rw [← hr] at hz
    have hi : i < m := by
      have := (List.getElem?_eq_some_iff.1 hz).1
      simp at this
      omega
    have q := h4 _ rfl (B + i) (by omega)
    rw [Addr.add_lit] at q
    simp only [Addr.add_lit]
    rw [Nat.add_assoc, q]
    simp [List.getElem?_take, hi, List.getElem?_drop, List.getElem?_eq_getElem (show B + i < X.length by omega)] at hz
    rw [← hz]
    simp [List.getD_eq_getElem?_getD, List.getElem?_eq_getElem (show B + i < X.length by omega)]

def tkl (v : Value) (S : List Tk) : Thing :=
  ⟨fun w K => OK w 0 v S ∧ (∀ k, v.ownBlock = some k → K k ≠ 0) ∧ ∀ k, K k ≠ 0 → k < w.heap.size,
   fun h a b => ⟨tokown_move h.1 fun k hk => b k (h.2.1 k hk), h.2.1, fun k hk => Nat.lt_of_lt_of_le (h.2.2 k hk) a⟩, fun h => h.2.2⟩

structure CpOk (w : World) (g : Nat) (sp : Option Addr) (rw : List Int) (m : Nat) : Prop where
  max : m ≤ 65535
  hg : w.heap[g]? = some (.cells (List.replicate m (Value.int .u8 0)).toArray 5 (0, 0))
  len : rw.length = m
  src : 0 < m → ∃ ad, sp = some ad ∧ ∀ i z, (rw.map (Value.int .u8))[i]? = some z → w.cell? (ad.add i) = some z

theorem wpList_cpR {w : World} {ops : Array Oper} {rest : List Oper} {o : Oper} {a : Act} {Q : Exit → Act → World → Prop} (hgd : o.guard = none) (d s : Operand) (ho : o.op = .call { callee := .builtin .copy, args := #[d, s], argTypes := #[28, 28] })
    (g m : Nat) (sp : Option Addr) (sc n : Nat) (hn : n = m) (rw : List Int) (hd : a.eval d = .slice (some ⟨g, 0, none⟩) m m) (hs : a.eval s = .slice sp n sc) (F : CpOk w g sp rw m)
    (h : ∀ w', OB w' g (.slice (some ⟨g, 0, none⟩) m m) rw → w.grownBy w' (some g) → wpList Tryz.prog ops Q rest (a.put o.dst (goInt rw.length)) w') : wpList Tryz.prog ops Q (o :: rest) a w := by
  have hl := F.len
  subst n
  refine wpList_copy_gr hgd d s 28 28 ho 5 Tryz.underlying28 sizeByte _ sp m m m sc hd hs g 0 _ 5 F.hg (rw.map (Value.int .u8)) (by rw [List.length_map, hl]; exact (Nat.min_self m).symm) (fun hpos => ⟨rfl, F.src (by rw [List.length_map] at hpos; omega)⟩) (by rw [List.length_map, List.length_replicate]; omega) (fun z hz => by obtain ⟨n, _, rfl⟩ := List.mem_map.1 hz; rfl) ?_
  intro w' h1 h2
  rw [List.length_map]
  refine h w' ?_ h2
  have q := h1.out
  rw [splice_all _ _ (by rw [List.length_map, List.length_replicate, hl])] at q
  have := OB.of_full q (Nat.le_refl _) (by have := F.max; unfold maxLen; omega)
  rwa [hl] at this

set_option maxHeartbeats 16000000 in
theorem blockInflates_walk (k : Int) (v vr : Value) (ps : List Pt) (R : List Tk) (W : World) (h : SP W v ps) (h' : SK W vr R) (hb : ∀ t ∈ R, Bt t) (hn : R.length ≤ 5864062014800) (T : Ltab W ∧ Dtab W) (TH : Tab W) (O : Odr W) :
    Calls Tryz.prog 3 #[v, vr, .int .i64 k] W fun e w' => e = .returned (.bool true) ∧ Below W.heap.size W w' := by
  have HS := hide h
  have HSR := hide h'
  have HBT := hide hb
  have HTT := hide (And.intro T (And.intro TH O))
  obtain ⟨av, cv, rfl⟩ : ∃ a c, v = .slice a ps.length c := by
    rcases h.1 with ⟨a, c, rfl, -⟩ | ⟨c, rfl, e, -⟩
    · exact ⟨_, _, rfl⟩
    · exact ⟨_, c, by rw [e]⟩
  obtain ⟨ao, cap, rfl, hlc, hcm⟩ := h'.open
  clear h h' hb T TH O
  by_cases hp : 10000 < ps.length
  · have hp' : (10000 : Int) < (ps.length : Int) := by omega
    go_enter Tryz.func3, Tryz.ntmps3
    go_wp2
    go_ret
    exact ⟨rfl, Below.refl _ _⟩
  have hp' : ¬ (10000 : Int) < (ps.length : Int) := by omega
  go_enter Tryz.func3, Tryz.ntmps3
  go_wp2_with (at_make; refine wpList_mkP rfl _ _ rfl _ _ rfl rfl ?_)
  intro w1 o1 b1 z1
  have HS1 : Hid (SG w1 2 (.slice av ps.length cv) ps.length (flP ps)) := HS.out.1.below b1
  go_wp2_with (at_builtin; refine wpList_appG rfl _ _ 22 rfl W.heap.size 25 _ 2 32 Tryz.underlying22 infoPart rfl (by decide) _ _ 0 ps.length [] (flP ps) rfl o1 rfl HS1.out (by omega) (by omega) (by have := b1.size; omega) ?_)
  intro v2 w2 o2 g2
  have HB2 : Hid (Below W.heap.size W w2) := b1.grown g2 b1.size (fun k hk => by simp [Value.ownBlock] at hk; omega)
  have HO2 : Hid (OP w2 W.heap.size v2 ps) := by
    have q := o2
    exact q
  clear o2 g2 HS1 o1 b1 z1
  go_wp2_with (at_builtin; refine wpList_appG rfl _ _ 22 rfl W.heap.size 25 _ 2 32 Tryz.underlying22 infoPart rfl (by decide) _ _ ps.length 1 (flP ps) [.slice ao R.length cap, .int .i64 k] rfl (HO2.out.move fun k hk => Below.heap_alloc _ _ k (HO2.out.lt k hk).2) rfl (one_sg w2 _ k rfl) (by omega) (by omega) (by have := HB2.out.size; simp; omega) ?_)
  intro v3 w3 o3 g3
  obtain ⟨qs, HQS⟩ : ∃ qs : List Pt, Hid (qs = ps ++ [((.slice ao R.length cap : Value), R, k)]) := ⟨_, rfl⟩
  have hql : qs.length = ps.length + 1 := by rw [HQS.out]; simp
  have HQ : Hid (∀ p ∈ qs, SK W p.1 p.2.1 ∧ (∀ t ∈ p.2.1, Bt t) ∧ p.2.1.length ≤ 5864062014800) := fun p hp => by
    rw [HQS.out] at hp
    rcases List.mem_append.1 hp with hp | hp
    · exact HS.out.2 p hp
    · simp at hp; subst hp; exact ⟨HSR.out, HBT.out, hn⟩
  have HO3 : Hid (OP w3 W.heap.size v3 qs) := by
    have q := o3
    rw [show flP ps ++ [Value.slice ao R.length cap, .int .i64 k] = flP qs by rw [HQS.out, flP_app]; rfl, ← hql] at q
    exact q
  have HB3 : Hid (Below W.heap.size W w3) := (HB2.out.alloc HB2.out.size _).grown g3 (by have := HB2.out.size; simp; omega) (fun k hk => (HO2.out.lt k hk).1)
  obtain ⟨gq, cq, hv3, hqc, hqm⟩ : ∃ g c, v3 = .slice (some ⟨g, 0, none⟩) qs.length c ∧ qs.length ≤ c ∧ c ≤ 9223372036854775807 := by
    rcases HO3.out.2 with ⟨_, h0⟩ | ⟨g, c, cur, e, _, _, q3, q4, _⟩
    · omega
    · unfold maxLen at q4; exact ⟨g, c, e, q3, by omega⟩
  subst hv3
  have hq1 : 1 ≤ qs.length := by omega
  have hq2 : qs.length ≤ 10001 := by omega
  clear o3 g3 HB2 HO2 hp hp' hql hlc hcm hn HSR HBT HS
  go_wp2
  go_loopw [7, 8, 10] (fun u t i wr => ∃ (j : Nat) (A : Int), j ≤ qs.length ∧ i = .int .i64 (j : Int) ∧ t = .int .i64 A ∧ Hid (Pok (qs.take j) A) ∧ Hid (OK wr w3.heap.size u (tksP (qs.take j))) ∧ Hid (Below w3.heap.size w3 wr)) (fun _ _ i _ => qs.length - (intOf i).toNat)
  case atStart => exact ⟨0, 0, Nat.zero_le _, rfl, rfl, Pok.nil, OK.nil _ _, Below.refl _ _⟩
  case round =>
    obtain ⟨j, A, hj, rfl, rfl, HP, HOK, HB⟩ := hrel
    by_cases hlt : j < qs.length
    · have hlt' : (j : Int) < (qs.length : Int) := by omega
      obtain ⟨⟨u, S, kd⟩, HPJ⟩ : ∃ p : Pt, Hid (qs[j]? = some p) := ⟨_, List.getElem?_eq_getElem hlt⟩
      obtain ⟨c1, c2⟩ := OP.at (HO3.out.below HB.out (Nat.le_refl _)) HPJ.out
      simp only at c1 c2
      obtain ⟨q1, q2, q3⟩ := HQ.out _ (List.mem_of_getElem? HPJ.out)
      simp only at q1 q2 q3
      have HQK := hide q1
      have HQB := hide q2
      have hA := HP.out.pos
      have hA1 := HP.out.le
      have HSO := hide (lsound2_any u S A wr (q1.below (HB3.out.trans (HB.out.mono HB3.out.size))) q3 hA.1 (by omega))
      clear q1 q2
      go_wp2_with fail
      refine HSO.out.mono ?_
      rintro e w4 ⟨he, b4⟩
      unfold Lsb at he
      subst he
      have HB4 : Hid (Below w3.heap.size w3 w4) := HB.out.trans (b4.mono HB.out.size)
      have HBW : Hid (Below W.heap.size W w4) := HB3.out.trans (HB4.out.mono HB3.out.size)
      have HO4 : Hid (OK w4 w3.heap.size u7 (tksP (qs.take j))) := HOK.out.below b4 (Nat.le_refl _)
      clear c1 c2
      obtain ⟨c1, c2⟩ := OP.at (HO3.out.below HB4.out (Nat.le_refl _)) HPJ.out
      simp only at c1 c2
      clear b4 HSO HB HOK
      by_cases ha : asnd S = true
      case neg =>
        simp only [eq_false_of_ne_true ha, Bool.false_and, if_false, Bool.false_eq_true]
        go_wp2
        go_ret
        exact ⟨rfl, HBW.out⟩
      simp only [ha, Bool.true_and, if_true]
      obtain ⟨n, HN⟩ : ∃ n, Hid (lsay S = n) := ⟨_, rfl⟩
      have hn0 : 0 ≤ n := by rw [← HN.out]; exact (lsay_in S ha).1
      rw [HN.out]
      by_cases hr : nrA A S = true
      case neg =>
        simp only [eq_false_of_ne_true hr]
        go_wp2
        go_ret
        exact ⟨rfl, HBW.out⟩
      simp only [hr]
      have HA := hide ha
      have HR := hide hr
      clear ha hr
      by_cases g1 : 65535 < n
      case pos =>
        go_wp2
        go_ret
        exact ⟨rfl, HBW.out⟩
      by_cases g2 : kd < 0
      case pos =>
        go_wp2
        go_ret
        exact ⟨rfl, HBW.out⟩
      by_cases g3 : 2 < kd
      case pos =>
        go_wp2
        go_ret
        exact ⟨rfl, HBW.out⟩
      have hw1 : wrap64 (A + n) = A + n := by unfold wrap64; omega
      by_cases g4 : 1048576 < A + n
      case pos =>
        go_wp2
        go_ret
        exact ⟨rfl, HBW.out⟩
      have HPN : Hid (Pok (qs.take (j + 1)) (A + n)) := by
        have q := HP.out.snoc (p := (u, S, kd)) (sd_of HA.out (by rw [HN.out]; omega)) HQB.out ⟨by show 0 ≤ kd; omega, by show kd ≤ 2; omega⟩ HR.out (by show A + lsay S ≤ _; rw [HN.out]; omega)
        rw [take_snocP HPJ.out]
        simp only [HN.out] at q
        exact q
      have hlT := HP.out.pos.2
      have hlS : (S.length : Int) ≤ n := by rw [← HN.out]; exact snd_le S (fun t ht => (asnd_all10 HA.out HQB.out t ht).1)
      have HSG := hide ((HQK.out.below HBW.out).sg)
      go_wp2_with (at_builtin; refine wpList_appG rfl _ _ 23 rfl w3.heap.size 54 _ 3 24 Tryz.underlying23 infoTok rfl (by decide) _ _ (tksP (qs.take j)).length S.length (fr3 (tksP (qs.take j))) (fr3 S) rfl HO4.out rfl HSG.out (by omega) (by omega) HB4.out.size ?_)
      intro v5 w5 o5 g5
      have HO5 : Hid (OK w5 w3.heap.size v5 (tksP (qs.take (j + 1)))) := by
        rw [take_snocP HPJ.out, tksP_snoc]
        unfold OK
        rw [List.length_append, show fr3 (tksP (qs.take j) ++ S) = fr3 (tksP (qs.take j)) ++ fr3 S by simp [fr3]]
        exact o5
      have HB5 : Hid (Below w3.heap.size w3 w5) := HB4.out.grown g5 HB4.out.size (fun k hk => (HO4.out.lt k hk).1)
      clear o5 g5
      go_wp2
      go_roundw
      case rel => exact ⟨j + 1, A + n, by omega, by go_num, rfl, HPN, HO5, HB5⟩
      case measure => simp [intOf]; omega
    · have hlt' : ¬ (j : Int) < (qs.length : Int) := by omega
      obtain rfl : j = qs.length := by omega
      have HP1 : Hid (Pok qs A) := by have q := HP.out; rwa [List.take_length] at q
      have HK1 : Hid (OK wr w3.heap.size u7 (tksP qs)) := by have q := HOK.out; rwa [List.take_length] at q
      have hA := HP1.out.pos
      have hA1 := HP1.out.le
      have HLI := hide (list_any u7 (tksP qs) wr HK1.out.sk (by omega))
      clear HP HOK hlt hlt' hj
      go_wp2_with fail
      refine HLI.out.mono ?_
      rintro e w4 ⟨u, rfl, o4, b4⟩
      have HEX := hide (expand_any u (tksP qs) A w4 o4.sk)
      have HB4 : Hid (Below w3.heap.size w3 w4) := HB.out.trans (b4.mono HB.out.size)
      clear HLI b4 o4
      go_wp2_with fail
      refine HEX.out.mono ?_
      rintro e w5 ⟨tx, rfl, o5, b5⟩
      obtain ⟨X, HX⟩ : ∃ X, Hid (exT [] (tksP qs) = X) := ⟨_, rfl⟩
      have hXE : xE A (tksP qs) = 0 := by rw [xE_in hA.1 (by omega)]; exact (HP1.out.text (Int.le_refl _)).1
      have HXL : Hid ((X.length : Int) = A) := by rw [← HX.out]; exact (HP1.out.text (Int.le_refl _)).2
      have eXL : xL A (tksP qs) = X := by unfold xL; rw [if_pos hXE, HX.out]
      rw [hXE]
      rw [eXL] at o5
      obtain ⟨a5, c5, hv5⟩ := o5.shape
      subst hv5
      have hAX : A = (X.length : Int) := HXL.out.symm
      subst hAX
      have HB5 : Hid (Below w3.heap.size w3 w5) := HB4.out.trans (b5.mono HB4.out.size)
      have HBW : Hid (Below W.heap.size W w5) := HB3.out.trans (HB5.out.mono HB3.out.size)
      have HO5 := hide o5
      have HT5 : Hid ((Ltab w5 ∧ Dtab w5) ∧ Tab w5 ∧ Odr w5) := ⟨⟨HTT.out.1.1.low HBW.out, HTT.out.1.2.low HBW.out⟩, HTT.out.2.1.mono HBW.out, HTT.out.2.2.mono HBW.out⟩
      have HNW := hide (hnewW (Herd.nil w5))
      have hXX : ((X.length : Int) != (X.length : Int)) = false := by simp
      obtain ⟨hc5, hc5m⟩ : X.length ≤ c5 ∧ c5 ≤ 9223372036854775807 := by
        obtain ⟨_, _, he, q1, q2, -⟩ := o5.sb
        simp only [Value.slice.injEq] at he
        obtain ⟨-, -, rfl⟩ := he
        unfold maxLen at q2
        exact ⟨q1, by omega⟩
      clear o5 b5 hXE eXL HEX HTT HK1 HB HB4
      go_wp2_with fail
      refine HNW.out.mono ?_
      rintro e w6 ⟨g, K6, rfl, h6⟩
      have HH6 := hide h6
      clear h6 HNW
      go_wp2
      go_loopw [17, 18] (fun t i wr => ∃ (j : Nat) (B : Nat) (K : Nat → Nat), j ≤ qs.length ∧ i = .int .i64 (j : Int) ∧ t = .int .i64 (B : Int) ∧ Hid (Pok (qs.take j) B) ∧ Hid (((rwj qs j).length : Int) ≤ 10100 * j + 48 * B) ∧ Hid (Herd w5 wr [(K, tw g (rwj qs j))])) (fun _ i _ => qs.length - (intOf i).toNat)
      case atStart => exact ⟨0, 0, K6, Nat.zero_le _, rfl, rfl, Pok.nil, by rw [rwj_zero hq1]; show (([] : List Int).length : Int) ≤ _; simp, by rw [rwj_zero hq1]; exact HH6⟩
      case round =>
        obtain ⟨j, B, K, hj, rfl, rfl, HP, HRL, HH⟩ := hrel
        by_cases hlt : j < qs.length
        · have hlt' : (j : Int) < (qs.length : Int) := by omega
          obtain ⟨⟨u, S, kd⟩, HPJ⟩ : ∃ p : Pt, Hid (qs[j]? = some p) := ⟨_, List.getElem?_eq_getElem hlt⟩
          obtain ⟨p1, p2, p3, p4, p5, p6⟩ := HP1.out.at HP.out HPJ.out
          obtain ⟨m, hm⟩ : ∃ m : Nat, lsay S = (m : Int) := ⟨_, (Int.toNat_of_nonneg (sd_ok p1).2.2.1).symm⟩
          have hm1 : m ≤ 65535 := by have := (sd_ok p1).2.2.2.1; omega
          have hBm : B + m ≤ X.length := by omega
          have HNX : Hid (Pok (qs.take (j + 1)) ((B + m : Nat) : Int)) := by
            have q := HP.out.snoc (p := (u, S, kd)) p1 p2 ⟨p3, p4⟩ p5 (by show _ + lsay S ≤ _; omega)
            rw [take_snocP HPJ.out]
            simp only [hm] at q
            exact q
          have HSD := hide p1
          have HSB := hide p2
          obtain ⟨rw, HRW⟩ : ∃ r, Hid ((X.drop B).take m = r) := ⟨_, rfl⟩
          have hrl : rw.length = m := by rw [← HRW.out, List.length_take, List.length_drop]; omega
          have HST := hide (rwj_step HP1.out HP.out HPJ.out hm)
          rw [HX.out, HRW.out] at HST
          have HBR := hide HH.out.bel
          have HBQ : Hid (Below w3.heap.size w3 wr) := HB5.out.trans (HBR.out.mono HB5.out.size)
          obtain ⟨c1, c2⟩ := OP.at (HO3.out.below HBQ.out (Nat.le_refl _)) HPJ.out
          simp only at c1 c2
          obtain ⟨q1, -, q3⟩ := HQ.out _ (List.mem_of_getElem? HPJ.out)
          simp only at q1 q3
          have HQK := hide q1
          have HSO : Hid (Calls Tryz.prog 5 #[u, .int .i64 (B : Int)] wr fun e w' => e = .returned (.tuple #[.int .i64 (m : Int), .bool true, .bool true]) ∧ Below wr.heap.size wr w') := by
            refine (lsound2_any u S B wr (q1.below (HBW.out.trans (HBR.out.mono HBW.out.size))) q3 (by omega) (by omega)).mono ?_
            rintro e w' ⟨he, hb⟩
            unfold Lsb at he
            rw [(sd_ok p1).1, p5, hm] at he
            exact ⟨he, hb⟩
          clear q1 p1 p2 p5
          go_wp2_with fail
          refine HSO.out.mono ?_
          rintro e w7 ⟨rfl, b7⟩
          have HH7 := hide (HH.out.below b7)
          clear HSO b7 HH HBQ HBR c1 c2
          go_wp2_with (at_make; refine wpList_mk rfl _ _ rfl _ _ (m : Int) (m : Int) m m rfl rfl rfl rfl (Nat.le_refl _) (by omega) ?_)
          intro w8 hg8 b8
          have HSB8 : Hid (SB w8 (.slice a5 X.length c5) X) := (HO5.out.sb.below HH7.out.bel).below b8
          obtain ⟨sp, hsp⟩ : ∃ sp : Option Addr, (if c5 = B then a5 else Option.map (fun x => x.add B) a5) = sp := ⟨_, rfl⟩
          have HCP : CpOk w8 w7.heap.size sp rw m := ⟨hm1, hg8, hrl, fun hpos => by
            rw [← hsp, if_neg (by omega)]
            exact raw_src HSB8.out HRW.out hBm hpos⟩
          have hBm' : (B : Int) + (m : Int) ≤ (c5 : Int) := by omega
          clear hg8
          go_wp2_with (refine wpList_cpR rfl _ _ rfl w7.heap.size m _ _ (B + m - B) (Nat.add_sub_cancel_left B m) rw rfl rfl (by first | exact HCP | (rw [hsp]; exact HCP)) ?_)
          intro w9 o9 g9
          have HB9 : Hid (Below w7.heap.size w7 w9) := b8.grown g9 b8.size (fun k hk => by cases hk; exact Nat.le_refl _)
          obtain ⟨K9, h9⟩ := HH7.out.list HB9.out o9
          have HH9 := hide h9
          have HBR := hide h9.bel
          have HBQ : Hid (Below w3.heap.size w3 w9) := HB5.out.trans (HBR.out.mono HB5.out.size)
          obtain ⟨c1, c2⟩ := OP.at (HO3.out.below HBQ.out (Nat.le_refl _)) HPJ.out
          simp only at c1 c2
          clear o9 g9 HCP hsp h9 HH7 b8 HB9
          obtain ⟨rwv, HRV⟩ : ∃ v : Value, Hid (v = .slice (some ⟨w7.heap.size, 0, none⟩) m m) := ⟨_, rfl⟩
          obtain ⟨row, HROW⟩ : ∃ r, Hid (rwj qs j = r) := ⟨_, rfl⟩
          obtain ⟨fl, hfl⟩ : ∃ fl : Bool, ((j : Int) == (qs.length : Int) - 1) = fl := ⟨_, rfl⟩
          have HFL : Hid (fl = decide (j + 1 = qs.length)) := by
            show _ = _
            rw [← hfl]
            by_cases q : j + 1 = qs.length
            · rw [decide_eq_true q]; simp; omega
            · rw [decide_eq_false q]; simp; omega
          rw [HROW.out, ← HFL.out] at HST
          rw [HROW.out] at HRL
          have hblk : ((blkB kd.toNat fl S rw row.length).length : Int) ≤ 10100 + 48 * m := by
            have q := blk_le2 (R := S) (l := rw) (a := (row.length : Int)) HSD.out HSB.out (by rw [hrl, hm]) (by omega) kd.toNat fl
            rwa [hm] at q
          have hXm : (X.length : Int) ≤ 1048576 := HP1.out.le
          have HRL2 : Hid (((rwj qs (j + 1)).length : Int) ≤ 10100 * ((j + 1 : Nat) : Int) + 48 * ((B + m : Nat) : Int)) := by
            rw [HST.out, List.length_append]
            have q := HRL.out
            show _ ≤ _
            omega
          have HCE : Hid (∀ (wx : World) (ys : List ((Nat → Nat) × Thing)), Herd w5 wx ys → wx.cell? ⟨gq, j * 2, none⟩ = some u ∧ wx.cell? ⟨gq, j * 2 + 1, none⟩ = some (.int .i64 kd)) := fun wx ys hh => OP.at (HO3.out.below (HB5.out.trans (hh.bel.mono HB5.out.size)) (Nat.le_refl _)) HPJ.out
          have HLS : Hid (Calls Tryz.prog 7 #[u] w9.drew fun e w' => ∃ y KL, e = .returned y ∧ Herd w5 w' [(K, tw g row), (K9, tl (.slice (some ⟨w7.heap.size, 0, none⟩) m m) rw), (KL, tkl y S)]) := by
            have hx := HH9.out.drewN 1
            rw [HROW.out] at hx
            refine (list_any u S w9.drew (HQK.out.below (HBW.out.trans (hx.bel.mono HBW.out.size))) (by omega)).mono ?_
            rintro e w' ⟨y, rfl, oy, by'⟩
            exact ⟨y, kOw y, rfl, hx.push by' (x := tkl y S) (K := kOw y) ⟨oy.base (Nat.zero_le _), fun k hk => kOw_iff.2 hk, fun k hk => (oy.lt k (kOw_iff.1 hk)).2⟩ (fun k hk => (oy.lt k (kOw_iff.1 hk)).1)⟩
          have HWR : Hid (∀ (wx : World) (y : Value) (KL : Nat → Nat), Herd w5 wx [(K, tw g row), (K9, tl (.slice (some ⟨w7.heap.size, 0, none⟩) m m) rw), (KL, tkl y S)] → Calls Tryz.prog 9 #[.pointer (some ⟨g, 0, none⟩), y, .slice (some ⟨w7.heap.size, 0, none⟩) m m, .int .i64 kd, .bool fl] wx fun e w' => e = .returned (.int .i64 0) ∧ ∃ K', Herd w5 w' [(K', tw g (rwj qs (j + 1)))]) := fun wx y KL hh => by
            have hByt : Byt rw := by
              rw [← HRW.out, ← HX.out]
              exact byt_take (byt_drop (byt_exT _ _ byt_nil (fun t ht => (HP1.out.snd t ht).2)) _) _
            have hwt : wtE S rw kd = 0 := by
              unfold wtE
              rw [if_neg (by omega), if_neg (by omega), if_neg (fun q => q HSD.out), if_neg (fun q => q (by rw [(sd_ok HSD.out).2.1, hm, hrl]))]
            refine (hblockWrite hh 0 rfl y S (fun wr zs hz => (hz.rep 2 _ rfl).1.sk) (by omega) HSB.out _ rw (fun wr zs hz => (hz.rep 1 _ rfl).1.sb) hByt kd fl HT5.out.1 HT5.out.2.1 HT5.out.2.2).mono ?_
            rintro e w' (⟨h0, -, -⟩ | ⟨h0, rfl, K', h8⟩)
            · exact absurd hwt h0
            · have q := HRL.out
              have e1 : joinE row (blkB kd.toNat fl S rw row.length) = 0 := by unfold joinE; rw [if_neg (by omega)]
              have e2 : joinRow row (blkB kd.toNat fl S rw row.length) = rwj qs (j + 1) := by unfold joinRow; rw [if_neg (by omega), HST.out]
              rw [e1]
              rw [e2] at h8
              exact ⟨rfl, K', (show Herd w5 w' ([_] ++ [_]) from (show Herd w5 w' ([_, _] ++ [_]) from h8).front).front⟩
          have hw2 : IntKind.i64.wrap ((qs.length : Int) - 1) = (qs.length : Int) - 1 := by rw [IntKind.wrap_i64]; omega
          clear HSB8 hblk HROW HST HSD HSB HQK hm p3 p4 p6 hrl HRL HH9
          go_wp2
          go_region_held3 (fun w' => w'.cell? ⟨gq, j * 2, none⟩ = some u ∧ w'.cell? ⟨gq, j * 2 + 1, none⟩ = some (.int .i64 kd)) (first | exact ⟨c1, c2⟩ | exact HC10.out | exact HC11.out) (first
            | (go_at_call 7
               with_reducible refine HLS.out.mono ?_
               rintro e w10 ⟨y, KL, rfl, h10⟩
               have HH10 := hide h10
               have HC10 := hide (HCE.out _ _ h10)
               clear h10)
            | (go_at_call 9
               with_reducible refine (HWR.out _ _ _ HH10.out).mono ?_
               rintro e w11 ⟨rfl, K11, h11⟩
               have HH11 := hide h11
               have HC11 := hide (HCE.out _ _ h11)
               clear h11))
          all_goals
            clear HLS HWR HCE
            have hw3 : wrap64 ((B : Int) + (m : Int)) = ((B + m : Nat) : Int) := by unfold wrap64; omega
            go_wp2
            go_roundw
            case rel => exact ⟨j + 1, B + m, K11, by omega, by go_num, by go_num, HNX, HRL2, HH11⟩
            case measure => simp [intOf]; omega
        · have hlt' : ¬ (j : Int) < (qs.length : Int) := by omega
          obtain rfl : j = qs.length := by omega
          obtain ⟨row, HROW⟩ : ∃ r, Hid (rwj qs qs.length = r) := ⟨_, rfl⟩
          rw [HROW.out] at HH HRL
          have hXm : (X.length : Int) ≤ 1048576 := HP1.out.le
          have HRB : Hid (rowB [] 0 (pts qs) = row) := by
            rw [← HROW.out]
            unfold rwj
            rw [if_neg (Nat.lt_irrefl _)]
            exact rfl
          have hB : B = X.length := by
            have q1 := HP.out.tot
            rw [List.take_length] at q1
            have q2 := HP1.out.tot
            omega
          have HBI := hide (HH.out.bit 0 rfl)
          have HPB := hide (unpack_pack HBI.out.1)
          have HPL := hide (length_pack HBI.out.1)
          have HIF : Hid (Ifl (pack row) (X.length : Int) 0 row.length X) := by
            have q := HRL.out
            have hpl := HPL.out
            refine .inr ⟨⟨by rw [hpl]; omega, by omega, by omega⟩, ?_⟩
            have ho : rowOk X.length 0 (pts qs) := by
              have q := Pok.row (ps := []) (qs := qs) Pok.nil HP1.out X.length (Int.le_refl _)
              exact q
            obtain ⟨pcs, ht⟩ := row_read (row := pad row) (L := X.length) (bit_pad HBI.out.1) (pts qs) [] 0 (List.replicate ((row.length + 7) / 8 * 8 - row.length) 0) (by intro e; have h0 : (pts qs).length = 0 := by { rw [e]; rfl }; unfold pts at h0; rw [List.length_map] at h0; omega) byt_nil ho (by rw [HRB.out]; rfl)
            rw [HRB.out, row_pts10, HX.out, Nat.zero_add] at ht
            exact ⟨pcs, _, _, by rw [HPB.out.1, Int.toNat_natCast]; exact ht, .inl ⟨rfl, rfl, rfl⟩⟩
          have HEA : Hid (Exa (pack row) (X.length : Int) 0 X) := ⟨0, row.length, X, HIF.out, .inr (.inr (.inr ⟨rfl, by omega, HPL.out.symm, rfl, rfl⟩))⟩
          obtain ⟨PB, HPK⟩ : ∃ P, Hid (pack row = P) := ⟨_, rfl⟩
          obtain ⟨Z, HZ⟩ : ∃ Z : Nat, Hid (row.length = Z) := ⟨_, rfl⟩
          have HBY := hide (hbytes HH.out 0 rfl)
          rw [HPK.out] at HBY HIF HEA HPB
          rw [HZ.out] at HIF
          have hZZ : ((Z : Int) != (Z : Int)) = false := by simp
          clear HH HP HRL HROW HRB HPL hB hlt hlt' HBI
          go_wp2_with fail
          refine HBY.out.mono ?_
          rintro e w7 ⟨a7, c7, K7, rfl, h7⟩
          have HH7 := hide h7
          have HIN := hide (hInflate (h7.sb 1 rfl) HPB.out.2 (X.length : Int) (HT5.out.2.1.mono h7.bel) (HT5.out.2.2.mono h7.bel))
          clear HBY h7
          go_wp2_with fail
          refine HIN.out.mono ?_
          rintro e w8 ⟨E, n, o, a8, c8, hI, rfl, o8, b8⟩
          obtain ⟨rfl, rfl, rfl⟩ := HIF.out.det hI
          obtain ⟨K8, h8⟩ := HH7.out.list b8 o8
          have HH8 := hide h8
          have HLE := hide (hlen h8 0 rfl)
          rw [HZ.out] at HLE
          have HEX : Hid (∀ (wx : World) (ys : List ((Nat → Nat) × Thing)), Herd w5 wx ys → ys[1]? = some (K7, tl (.slice a7 PB.length c7) PB) → Calls Tryz.prog 14 #[.slice a7 PB.length c7, .int .i64 (X.length : Int)] wx fun e w' => ∃ a c, e = .returned (.tuple #[.slice a X.length c, .int .i64 0]) ∧ OB w' wx.heap.size (.slice a X.length c) X ∧ Below wx.heap.size wx w') := fun wx ys hh h1 => by
            refine (hExact (hh.sb 1 h1) HPB.out.2 (X.length : Int) (HT5.out.2.1.mono hh.bel) (HT5.out.2.2.mono hh.bel)).mono ?_
            rintro e w' ⟨E, o, a, c, hx, rfl, ho, hb⟩
            obtain ⟨rfl, rfl⟩ := HEA.out.det hx
            exact ⟨a, c, rfl, ho, hb⟩
          have HSM : Hid (∀ (wx : World) (z : Value), Below w5.heap.size w5 wx → SB wx z X → Calls Tryz.prog 13 #[z, .slice a5 X.length c5] wx fun e w' => e = .returned (.bool true) ∧ ∃ n, w' = wx.drewN n) := fun wx z hb hz => by
            have q := same_any z (.slice a5 X.length c5) X X wx hz (HO5.out.sb.below hb)
            rwa [show eqB X X = true by simp [eqB]] at q
          clear HIN hI o8 b8 HIF h8 HH7 HEA HP1
          go_wp2_with fail
          refine HLE.out.mono ?_
          rintro e w9 ⟨rfl, h9⟩
          have HS1 := hide (HSM.out w9 _ h9.bel (h9.sb 2 rfl))
          have HH9 := hide h9
          clear h9 HLE HH8
          go_wp2_with fail
          refine HS1.out.mono ?_
          rintro e w10 ⟨rfl, n10, hw10⟩
          have HH10 := hide (HH9.out.drewN n10)
          rw [← hw10] at HH10
          have HE1 := hide (HEX.out _ _ HH10.out rfl)
          clear hw10 HS1 HH9
          go_wp2_with fail
          refine HE1.out.mono ?_
          rintro e w11 ⟨a11, c11, rfl, o11, b11⟩
          have HBF : Hid (Below w5.heap.size w5 w11) := HH10.out.bel.trans (b11.mono HH10.out.bel.size)
          have HS2 := hide (HSM.out w11 _ HBF.out o11.sb)
          clear o11 b11 HE1 HEX HSM
          go_wp2_with fail
          refine HS2.out.mono ?_
          rintro e w12 ⟨rfl, n12, hw12⟩
          have HFF : Hid (Below W.heap.size W w12) := by
            rw [hw12]
            exact below_drewN (HBW.out.trans (HBF.out.mono HBW.out.size)) n12
          clear hw12 HS2 HBF
          go_wp2
          go_ret
          exact ⟨rfl, HFF.out⟩
end Go.Proofs.YtfoglaajnlbnbaaGreatDoor

