import Derived.Test.YtmjdpfigkojolaaGreatDoorG29Vad
import Derived.Test.YtmjdpfigkojolaaGreatDoorG11Ifp
import Derived.Test.YtmjdpfigkojolaaGreatDoorG13Wkq
import Derived.Test.YtmjdpfigkojolaaGreatDoorG28Vac
import Derived.Test.YtmjdpfigkojolaaGreatDoorG05Rw3
import Derived.Deep.DeepCutAuto
namespace Go.Proofs.YtmjdpfigkojolaaGreatDoor
open Go.RowKit Go.Maps
set_option maxRecDepth 20000
set_option linter.unusedVariables false

theorem Cx.pre {ys zs : List ((Nat → Nat) × Thing)} {p : Option Addr} {l : List Int} (h : Cx zs p l) : Cx (ys ++ zs) p l := by
  rcases h with h | ⟨gl, i, K, h0, h1, h2⟩
  · exact .inl h
  · exact .inr ⟨gl, ys.length + i, K, h0, h1, by rw [List.getElem?_append_right (by omega)]; simpa using h2⟩

theorem Cx.app {ys zs : List ((Nat → Nat) × Thing)} {p : Option Addr} {l : List Int} (h : Cx ys p l) : Cx (ys ++ zs) p l := by
  rcases h with h | ⟨gl, i, K, h0, h1, h2⟩
  · exact .inl h
  · exact .inr ⟨gl, i, K, h0, h1, get_app h2⟩

variable {W w : World} {g r : Nat} {row : List Int} {p L : Nat} {out : List Int} {wh : List (Array Value)} {us : Int} {dn : Bool} {er : Int} {ys : List ((Nat → Nat) × Thing)}

theorem vdec (h : SX W w g r row p L out wh us dn er ys) (v : Value) (l : List Int) (hs : SI w v l) :
    Calls Tryz.prog 96 #[v] w fun e w' => Below w.heap.size w w' ∧ ∃ pd zs, e = .returned (.tuple #[.pointer pd, .int .i64 (dcE l)]) ∧ SX W w' g r row p L out wh us dn er (ys ++ zs) ∧ Cx zs pd l := by
  obtain ⟨Kt, Kr, Ko, Kw, a, c, aw, cw, H, k⟩ := h
  refine (xnewDecoder_any v l w hs).mono ?_
  rintro e w1 ⟨hb, ⟨h1, rfl⟩ | ⟨h0, gd, K, rfl, hd, hk⟩⟩
  · exact ⟨hb, none, [], rfl, ⟨Kt, Kr, Ko, Kw, a, c, aw, cw, by rw [List.append_nil]; exact H.below hb, k⟩, .inl ⟨rfl, h1⟩⟩
  · refine ⟨hb, some ⟨gd, 0, none⟩, [(K, tdx gd l)], by rw [h0], ⟨Kt, Kr, Ko, Kw, a, c, aw, cw, H.push hb hd hk, k⟩, .inr ⟨gd, 0, K, h0, rfl, rfl⟩⟩

theorem SX.at (h : SX W w g r row p L out wh us dn er ys) : w.cell? ⟨r, 1, none⟩ = some (.int .i64 p) ∧ Calls Tryz.prog 71 #[.pointer (some ⟨r, 0, none⟩)] w fun e w' => e = .returned (.int .i64 p) ∧ w' = w := by
  obtain ⟨Kt, Kr, Ko, Kw, a, c, aw, cw, H, k⟩ := h
  have hR : Rq w Kr r row p := H.rep 1 _ rfl
  refine ⟨?_, qat_any hR⟩
  obtain ⟨v, h1, _⟩ := hR
  exact h1.cell 1

theorem pre_then {a b c : List Int} (h : ∃ t, b = a ++ t) (k : ∃ t, c = b ++ t) : ∃ t, c = a ++ t := by
  obtain ⟨t, rfl⟩ := h
  obtain ⟨u, rfl⟩ := k
  exact ⟨t ++ u, List.append_assoc _ _ _⟩

set_option maxHeartbeats 8000000 in
theorem vsymbols (h : SX W w g r row p L out wh us dn er ys) (v1 v2 : Value) (l d : List Int) (s1 : SI w v1 l) (s2 : SI w v2 d) (hl0 : dcE l = 0) (hl : l.length ≤ 288) (hd : d.length ≤ 32) :
    Calls Tryz.prog 74 #[.pointer (some ⟨g, 0, none⟩), v1, v2] w fun e w' => ∃ E q o, Sys l d row L p out E q o ∧ e = .returned (.int .i64 E) ∧ ((E = 0 ∧ ∃ zs, SX W w' g r row q L o wh q dn er (ys ++ zs)) ∨ (E ≠ 0 ∧ ∃ q' o' us' zs, SXe out W w' g r row q' L o' wh us' dn er (ys ++ zs))) := by
  have HBT := hide h.rd.1
  have HD1 := hide (vdec h v1 l s1)
  have HS2 := hide s2
  have HL0 := hide hl0
  clear h s1 s2
  go_enter Tryz.func74, Tryz.ntmps74
  go_wp2_with fail
  refine HD1.out.mono ?_
  rintro e w1 ⟨hb1, pl, z1, rfl, h1, hc1⟩
  rw [hl0]
  have HD2 := hide (vdec h1 v2 d (HS2.out.below hb1))
  have HC1 := hide hc1
  clear h1 hc1 hb1 HD1 hl0
  go_wp2_with fail
  refine HD2.out.mono ?_
  rintro e w2 ⟨-, pd, z2, rfl, h2, hc2⟩
  obtain ⟨ys', HYS⟩ : ∃ ys', Hid (ys ++ z1 ++ z2 = ys') := ⟨_, rfl⟩
  have hcl : Cx ys' pl l := by rw [← HYS.out]; exact (Cx.pre HC1.out).app
  have HCD : Hid (Cx ys' pd d) := by rw [← HYS.out]; exact hide (Cx.pre hc2)
  obtain ⟨gl, il, Kl, rfl, hyl⟩ : ∃ (gl i : Nat) (K : Nat → Nat), pl = some ⟨gl, 0, none⟩ ∧ ys'[i]? = some (K, tdx gl l) := by
    rcases hcl with ⟨_, h⟩ | ⟨gl, i, K, _, h1, h2⟩
    · exact absurd HL0.out h
    · exact ⟨gl, i, K, h1, h2⟩
  have HYL := hide hyl
  rw [HYS.out] at h2
  have HTX := hide h2
  have HEND : Hid (∀ w' q o u, SX W w' g r row q L o wh u dn er ys' → ∃ zs, SX W w' g r row q L o wh u dn er (ys ++ zs)) := fun w' q o u h => ⟨z1 ++ z2, by rw [← List.append_assoc, HYS.out]; exact h⟩
  have HENE : Hid (∀ w' q o u, SX W w' g r row q L o wh u dn er ys' → (∃ t, o = out ++ t) → ∃ zs, SXe out W w' g r row q L o wh u dn er (ys ++ zs)) := fun w' q o u h ht => by obtain ⟨zs, h'⟩ := HEND.out w' q o u h; exact ⟨zs, h', ht⟩
  obtain ⟨DE, HDE⟩ : ∃ DE, Hid (DE = dcE d) := ⟨_, rfl⟩
  rw [← HDE.out]
  clear h2 hc2 hyl HD2 HYS HC1
  go_wp2
  go_loopw [11, 12] (fun v11 v12 wr => ∃ (p' : Nat) (o' : List Int) (u' : Int), Hid (SX W wr g r row p' L o' wh u' dn er ys') ∧ Hid (∀ E q o, Sys l d row L p' o' E q o → Sys l d row L p out E q o) ∧ Hid (∃ t, o' = out ++ t)) (fun _ _ wr => row.length - (intOf ((wr.cell? ⟨r, 1, none⟩).getD undef)).toNat)
  case atStart => exact ⟨p, out, us, HTX, (fun _ _ _ h => h), [], (List.append_nil _).symm⟩
  case round =>
    obtain ⟨p', o', u', HX, HSY, HPR⟩ := hrel
    clear HTX
    have HMS : Hid ((intOf ((wr.cell? ⟨r, 1, none⟩).getD undef)).toNat = p') := by show _ = _; rw [HX.out.at.1]; simp [intOf]
    obtain ⟨a3, x3, aw3, cw3, hst3, -, -, -⟩ := HX.out.cells
    obtain ⟨c0, -⟩ := stO_cells hst3
    have HN := hide (vnext HX.out il HYL.out)
    clear hst3
    go_wp2_with fail
    refine HN.out.mono ?_
    rintro e w3 (⟨hs, rfl, h3⟩ | ⟨hs, rfl, h3⟩)
    case inr =>
      have HX3 := hide h3
      obtain ⟨E, HE⟩ : ∃ E, Hid (E = syE l row p') := ⟨_, rfl⟩
      have HSB : Hid (Sys l d row L p' o' E p' o') := by rw [HE.out]; exact Sys.bad (sy1_bad hs) hs
      rw [← HE.out] at hs ⊢
      have hs' : (E != 0) = true := by simpa using hs
      have HSN := hide hs
      clear h3 c0 hs
      go_wp2
      (try simp only [Exit.inBlock, Exit.then])
      go_ret
      exact ⟨E, p', o', HSY.out _ _ _ HSB.out, rfl, .inr ⟨HSN.out, p', o', u', HENE.out _ _ _ _ HX3.out HPR.out⟩⟩
    obtain ⟨n1, n2, n3⟩ := nx_lt HL0.out (sy_nx hs)
    have HSZ := hide hs
    obtain ⟨S, HSS⟩ : ∃ S : Nat, Hid (S = nxS l row p') := ⟨_, rfl⟩
    obtain ⟨P, HPP⟩ : ∃ P : Nat, Hid (P = nxP l row p') := ⟨_, rfl⟩
    rw [← HSS.out] at n1 ⊢
    rw [← HPP.out] at n2 n3 h3
    have HN2 := hide n2
    have HN3 := hide n3
    have HX3 := hide h3
    have hS : S < 288 := by omega
    obtain ⟨a4, x4, aw4, cw4, hst4, -, hoL4, hL4⟩ := h3.cells
    obtain ⟨d0, d1, d2, -, d4, -, -, df⟩ := stO_cells hst4
    have HAT := hide h3.at.2
    have HU := hide (h3.used P)
    clear h3 hs n1 n2 n3 c0 HN hst4
    rcases Nat.lt_trichotomy S 256 with c | c | c
    · have hc1 : ((S : Int) == 256) = false := by simp; omega
      have hc2 : (S : Int) < 256 := by omega
      have HL1 : Hid (sy1 l d row L p' o' = if L < o'.length + 1 then (85, false, p', o') else (0, false, P, o' ++ [(S : Int)])) := by
        show _ = _
        rw [sy1_lit HSZ.out (by rw [← HSS.out]; exact c), ← HSS.out, ← HPP.out]
      obtain ⟨N, HN⟩ : ∃ N : Nat, Hid (N = o'.length) := ⟨_, rfl⟩
      rw [← HN.out] at d2 hoL4
      have q1 : ∀ q, (w3.drewN q).cell? ⟨g, 1, none⟩ = some (.int .i64 L) := fun q => d1
      have q2 : ∀ q, (w3.drewN q).cell? ⟨g, 2, none⟩ = some (.slice a4 N x4) := fun q => d2
      by_cases hlim : L ≤ N
      · have hg1 : (L : Int) ≤ (N : Int) := by omega
        have hg2 : decide ((L : Int) ≤ (N : Int)) = true := by simpa using hg1
        have HSB : Hid (Sys l d row L p' o' 85 p' o') := Sys.bad (by rw [HL1.out, if_pos (by rw [← HN.out]; omega)]) (by decide)
        clear d0 d4 df
        go_wp2
        go_quiet (fail)
        go_wp2
        (try simp only [Exit.inBlock, Exit.then])
        go_ret
        exact ⟨85, p', o', HSY.out _ _ _ HSB.out, rfl, .inr ⟨by decide, P, o', u', HENE.out _ _ _ _ (HX3.out.below (below_drewN (Below.refl _ _) _)) HPR.out⟩⟩
      · have hg1 : ¬ ((L : Int) ≤ (N : Int)) := by omega
        have hg2 : decide ((L : Int) ≤ (N : Int)) = false := by simpa using hg1
        have hu8 : IntKind.u8.wrap (S : Int) = (S : Int) := by rw [IntKind.wrap_u8]; omega
        obtain ⟨a9, x9, t2, hob9, hgo⟩ := HX3.out.lit
        rw [d2] at t2
        injection t2 with t2
        injection t2 with t2a t2b t2c
        subst t2a; subst t2c; clear t2b
        rw [← HN.out] at hob9 hgo
        have HOBQ : Hid (∀ q, OB ((w3.drewN q).alloc (.cells #[.int .u8 (S : Int)] 5)) 0 (.slice a4 N x4) o') := fun q => by
          have h1 : OB (w3.drewN q) 0 (.slice a4 N x4) o' := hob9.move fun k hk => rfl
          exact h1.alloc _
        have HSRQ : Hid (∀ q, Src Tryz.prog 1 22 (.slice (some ⟨(w3.drewN q).heap.size, 0, none⟩) 1 1) ([(S : Int)] : List Int).length (([(S : Int)] : List Int).map (Value.int .u8)) ((w3.drewN q).alloc (.cells #[.int .u8 (S : Int)] 5))) := fun q => built_src (w3.drewN q) [(S : Int)]
        have HLB2 : Hid (o'.length + ([(S : Int)] : List Int).length ≤ 140737488355328) := by show _ ≤ _; rw [← HN.out]; simp; omega
        have HGO := hide hgo
        clear hgo hob9 d0 d4 df
        go_wp2
        go_quiet (fail)
        go_wp2_with (at_builtin; refine wpList_app rfl _ _ 22 rfl 0 _ _ o' [(S : Int)] rfl (HOBQ.out _) rfl (HSRQ.out _) HLB2.out (Nat.zero_le _) ?_)
        intro v6 w6 ho6 hg6
        obtain ⟨o6, HO6⟩ : ∃ o6, Hid (o6 = o' ++ [(S : Int)]) := ⟨_, rfl⟩
        rw [← HO6.out] at ho6
        obtain ⟨a6, c6, rfl⟩ := ho6.shape
        obtain ⟨t3, t4, t5⟩ := HGO.out _ w6 _ o6 ((below_drewN (Below.refl _ _) _).alloc (Nat.le_refl _) _) ho6 hg6
        have ht6 := t5 (by rw [HO6.out, List.length_append, ← HN.out]; simp; omega)
        obtain ⟨a7, x7, aw7, cw7, hst7, -, -, -⟩ := ht6.cells
        obtain ⟨m0, -, -, -, m4, -, -, mf⟩ := stO_cells hst7
        have HAT7 := hide ht6.at.2
        have HU7 := hide (ht6.used P)
        have HSG : Hid (sy1 l d row L p' o' = (0, false, P, o6)) := by show _ = _; rw [HL1.out, if_neg (by rw [← HN.out]; omega), HO6.out]
        clear ho6 hg6 t5 ht6 hst7 d1 d2 q1 q2
        go_wp2_with (go_at_call 71; refine HAT7.out.mono ?_; rintro e w8 ⟨rfl, hw8⟩; rw [hw8]; clear hw8)
        go_roundw
        case rel => exact ⟨P, o6, P, HU7, (fun E q o h => HSY.out _ _ _ (Sys.go HSG.out h)), pre_then HPR.out (sy1_pre HSG.out)⟩
        case measure =>
          rw [HMS.out, HU7.out.at.1]
          simp [intOf]
          have := HN2.out
          have := HN3.out
          omega
    · have HF : Hid (Sys l d row L p' o' 0 P o') := Sys.fin (by rw [sy1_end HSZ.out (by rw [← HSS.out]; exact c), ← HPP.out])
      subst c
      clear d1 d2
      go_wp2_with (go_at_call 71; refine HAT.out.mono ?_; rintro e w4 ⟨rfl, hw4⟩; rw [hw4]; clear hw4)
      (try simp only [Exit.inBlock, Exit.then])
      go_ret
      exact ⟨0, P, o', HSY.out _ _ _ HF.out, rfl, .inl ⟨rfl, HEND.out _ _ _ _ HU.out⟩⟩
    · have hc1 : ((S : Int) == 256) = false := by simp; omega
      have hc2 : ¬ ((S : Int) < 256) := by omega
      have HL1 : Hid (sy1 l d row L p' o' = if lgE S row P ≠ 0 then (lgE S row P, false, p', o')
          else if dtE d row (lgP S P) ≠ 0 then (dtE d row (lgP S P), false, p', o')
          else if agE L o' (lgV S row P) (dtV d row (lgP S P)) ≠ 0 then (agE L o' (lgV S row P) (dtV d row (lgP S P)), false, p', o')
          else (0, false, dtP d row (lgP S P), cpy (dtV d row (lgP S P)) (lgV S row P) o')) := by
        show _ = _
        rw [sy1_copy HSZ.out (by rw [← HSS.out]; exact c), ← HSS.out, ← HPP.out]
      have HCP := hide (vcopied HX3.out S (by omega) (by omega) HCD.out hd)
      have HCR : Hid (∀ E q o, cpR S d row L P o' = (E, q, o) → (E ≠ 0 → sy1 l d row L p' o' = (E, false, p', o')) ∧ (E = 0 → sy1 l d row L p' o' = (0, false, q, o) ∧ P < q ∧ q ≤ row.length)) := fun E q o h => by
        unfold cpR at h
        rw [HL1.out]
        by_cases c1 : lgE S row P ≠ 0
        · rw [if_pos c1] at h ⊢
          have h1 : lgE S row P = E := by injection h
          exact ⟨fun _ => by rw [h1], fun e => by rw [h1] at c1; exact absurd e c1⟩
        rw [if_neg c1] at h ⊢
        by_cases c2 : dtE d row (lgP S P) ≠ 0
        · rw [if_pos c2] at h ⊢
          have h1 : dtE d row (lgP S P) = E := by injection h
          exact ⟨fun _ => by rw [h1], fun e => by rw [h1] at c2; exact absurd e c2⟩
        rw [if_neg c2] at h ⊢
        by_cases c3 : agE L o' (lgV S row P) (dtV d row (lgP S P)) ≠ 0
        · rw [if_pos c3] at h ⊢
          have h1 : agE L o' (lgV S row P) (dtV d row (lgP S P)) = E := by injection h
          exact ⟨fun _ => by rw [h1], fun e => by rw [h1] at c3; exact absurd e c3⟩
        rw [if_neg c3] at h ⊢
        injection h with h1 h
        injection h with h2 h3
        subst h1; subst h2; subst h3
        have hv := dtV_le HBT.out (by omega : dtE d row (lgP S P) = 0)
        have hg : P ≤ lgP S P := by unfold lgP; omega
        exact ⟨fun e => absurd rfl e, fun _ => ⟨rfl, by omega, by omega⟩⟩
      clear d0 d1 d2 d4 df
      go_wp2_with fail
      refine HCP.out.mono ?_
      rintro e w5 ⟨E, q, o, hcp, rfl, ⟨rfl, h5⟩ | ⟨he, q5, h5⟩⟩
      · obtain ⟨hsg, hq1, hq2⟩ := (HCR.out _ _ _ hcp).2 rfl
        have HSG := hide hsg
        have HQ1 := hide hq1
        have HQ2 := hide hq2
        obtain ⟨a7, x7, aw7, cw7, hst7, -, -, -⟩ := h5.cells
        obtain ⟨m0, -, -, -, m4, -, -, mf⟩ := stO_cells hst7
        have HAT7 := hide h5.at.2
        have HU7 := hide (h5.used q)
        clear h5 hst7 hcp hsg hq1 hq2
        go_wp2_with (go_at_call 71; refine HAT7.out.mono ?_; rintro e w8 ⟨rfl, hw8⟩; rw [hw8]; clear hw8)
        go_roundw
        case rel => exact ⟨q, o, q, HU7, (fun E q o h => HSY.out _ _ _ (Sys.go HSG.out h)), pre_then HPR.out (sy1_pre HSG.out)⟩
        case measure =>
          rw [HMS.out, HU7.out.at.1]
          simp [intOf]
          have := HN2.out
          have := HQ1.out
          have := HQ2.out
          omega
      · have HSB : Hid (Sys l d row L p' o' E p' o') := Sys.bad ((HCR.out _ _ _ hcp).1 he) he
        have HX5 := hide h5
        have he' : (E != 0) = true := by simpa using he
        have HEN := hide he
        clear h5 hcp he
        go_wp2
        (try simp only [Exit.inBlock, Exit.then])
        go_ret
        exact ⟨E, p', o', HSY.out _ _ _ HSB.out, rfl, .inr ⟨HEN.out, q5, o', u', HENE.out _ _ _ _ HX5.out HPR.out⟩⟩
end Go.Proofs.YtmjdpfigkojolaaGreatDoor

namespace Go.Proofs.YtmjdpfigkojolaaGreatDoor
open Go.RowKit Go.Maps
set_option maxRecDepth 20000
set_option linter.unusedVariables false

def byts (row : List Int) (P : Nat) (k : Nat) : List Int := (List.range k).map fun i => ahead row (P + 8 * i) 8

theorem byts_succ (row : List Int) (P k : Nat) : byts row P (k + 1) = byts row P k ++ [ahead row (P + 8 * k) 8] := by simp [byts, List.range_succ]
theorem byts_len (row : List Int) (P k : Nat) : (byts row P k).length = k := by simp [byts]

theorem byts_byt {row : List Int} (hb : Bit row) (P : Nat) : ∀ k, Byt (byts row P k)
  | 0 => byt_nil
  | k + 1 => by rw [byts_succ]; exact byt_append (byts_byt hb P k) (byt_one (ahead_bound hb _ 8).1 (ahead_bound hb (P + 8 * k) 8).2)

theorem byts_unpack {row : List Int} (hb : Bit row) (P : Nat) : ∀ k, P + 8 * k ≤ row.length → unpack (byts row P k) = (row.drop P).take (8 * k)
  | 0, _ => by simp [byts, unpack]
  | k + 1, h => by
    rw [byts_succ, unpack_append, byts_unpack hb P k (by omega), unpack_one]
    have e : bts (ahead row (P + 8 * k) 8) 8 = (row.drop (P + 8 * k)).take 8 := by
      unfold ahead
      have hl : ((row.drop (P + 8 * k)).take 8).length = 8 := by rw [List.length_take, List.length_drop]; omega
      have := bts_val ((hb.drop (P + 8 * k)).take 8)
      rwa [hl] at this
    rw [e, show 8 * (k + 1) = 8 * k + 8 by omega, List.take_add, List.drop_drop]

theorem byts_pack {row : List Int} (hb : Bit row) {P k : Nat} (h : P + 8 * k ≤ row.length) : pack ((row.drop P).take (8 * k)) = byts row P k := by
  rw [← byts_unpack hb P k h]
  exact pack_unpack (byts_byt hb P k)

variable {W w : World} {g r : Nat} {row : List Int} {p L : Nat} {out : List Int} {wh : List (Array Value)} {us : Int} {dn : Bool} {er : Int} {ys : List ((Nat → Nat) × Thing)}

theorem valign (h : SX W w g r row p L out wh us dn er ys) : Calls Tryz.prog 94 #[.pointer (some ⟨r, 0, none⟩)] w fun e w' => e = .returned (.tuple #[]) ∧ SX W w' g r row (algn p) L out wh us dn er ys := by
  obtain ⟨Kt, Kr, Ko, Kw, a, c, aw, cw, H, k1, k2, k3⟩ := h
  refine (hqalign H 1 rfl).mono ?_
  rintro e w1 ⟨rfl, h1⟩
  simp only [List.set_cons_succ, List.set_cons_zero] at h1
  exact ⟨rfl, Kt, Kr, Ko, Kw, a, c, aw, cw, h1, k1, k2, k3⟩

theorem vleft (h : SX W w g r row p L out wh us dn er ys) : Calls Tryz.prog 95 #[.pointer (some ⟨r, 0, none⟩)] w fun e w' => e = .returned (.int .i64 ((row.length : Int) - p)) ∧ SX W w' g r row p L out wh us dn er ys := by
  obtain ⟨Kt, Kr, Ko, Kw, a, c, aw, cw, H, k⟩ := h
  refine (hqleft H 1 rfl).mono ?_
  rintro e w1 ⟨rfl, h1⟩
  exact ⟨rfl, Kt, Kr, Ko, Kw, a, c, aw, cw, h1, k⟩

set_option maxHeartbeats 8000000 in
theorem vstored (h : SX W w g r row p L out wh us dn er ys) :
    Calls Tryz.prog 73 #[.pointer (some ⟨g, 0, none⟩)] w fun e w' => ∃ E q o, st1 row L p out = (E, q, o) ∧ e = .returned (.int .i64 E) ∧ ((E = 0 ∧ SX W w' g r row q L o wh q dn er ys) ∨ (E ≠ 0 ∧ ∃ q' o' u', SXe out W w' g r row q' L o' wh u' dn er ys)) := by
  obtain ⟨hbit, hp, hr28, hr8⟩ := h.rd
  have HBT := hide hbit
  obtain ⟨a, c, aw, cw, hst, -, hoL, hL⟩ := h.cells
  obtain ⟨c0, -⟩ := stO_cells hst
  obtain ⟨A, HA⟩ : ∃ A : Nat, Hid (A = algn p) := ⟨_, rfl⟩
  have HAG := hide (valign h)
  rw [← HA.out] at HAG
  have HRU : Hid (st1 row L p out = if row.length < A + 32 then (80, p, out)
      else if ahead row A 16 + ahead row (A + 16) 16 ≠ 65535 then (82, p, out)
      else if L < out.length + (ahead row A 16).toNat then (85, p, out)
      else if row.length < A + 32 + 8 * (ahead row A 16).toNat then (80, p, out)
      else (0, A + 32 + 8 * (ahead row A 16).toNat, out ++ pack ((row.drop (A + 32)).take (8 * (ahead row A 16).toNat)))) := by
    show _ = _; rw [HA.out]; rfl
  have hAl : A ≤ row.length := by rw [HA.out]; unfold algn; omega
  clear h hbit hst
  go_enter Tryz.func73, Tryz.ntmps73
  go_wp2_with fail
  refine HAG.out.mono ?_
  rintro e w1 ⟨rfl, h1⟩
  have HX1 := hide h1
  have HLF := hide (vleft h1)
  obtain ⟨a1, x1, aw1, cw1, hst1, -, -, -⟩ := h1.cells
  obtain ⟨d0, -⟩ := stO_cells hst1
  obtain ⟨R, HR⟩ : ∃ R : Nat, Hid (R = row.length) := ⟨_, rfl⟩
  rw [← HR.out] at HLF hr28 hAl
  clear h1 hst1 c0 HAG
  go_wp2_with fail
  refine HLF.out.mono ?_
  rintro e w2 ⟨rfl, h2⟩
  by_cases h32 : R < A + 32
  · have h32' : (R : Int) - (A : Int) < 32 := by omega
    have HE : Hid (st1 row L p out = (80, p, out)) := by show _ = _; rw [HRU.out, if_pos (by rw [← HR.out]; exact h32)]
    have HX2 := hide h2
    clear h2 d0
    go_wp2
    go_ret
    exact ⟨80, p, out, HE.out, rfl, .inr ⟨by decide, A, out, us, HX2.out, [], (List.append_nil _).symm⟩⟩
  have h32' : ¬ ((R : Int) - (A : Int) < 32) := by omega
  have HTK := hide (vtake h2 16 (by omega))
  obtain ⟨a2, x2, aw2, cw2, hst2, -, -, -⟩ := h2.cells
  obtain ⟨e0, -⟩ := stO_cells hst2
  clear h2 d0 hst2 HLF
  go_wp2_with fail
  refine HTK.out.mono ?_
  rintro e w3 (⟨-, rfl, h3⟩ | ⟨hbad, -⟩)
  case inr => rw [← HR.out] at hbad; omega
  obtain ⟨n1, HN1⟩ : ∃ n1 : Nat, Hid ((n1 : Int) = ahead row A 16) := ⟨(ahead row A 16).toNat, by have := (ahead_bound HBT.out A 16).1; show _ = _; omega⟩
  have hn1 : n1 < 65536 := by have := (ahead_bound HBT.out A 16).2; have := HN1.out; omega
  rw [← HN1.out]
  have HTK2 := hide (vtake h3 16 (by omega))
  obtain ⟨a3, x3, aw3, cw3, hst3, -, -, -⟩ := h3.cells
  obtain ⟨f0, -⟩ := stO_cells hst3
  clear h3 e0 hst3 HTK
  go_wp2_with fail
  refine HTK2.out.mono ?_
  rintro e w4 (⟨-, rfl, h4⟩ | ⟨hbad, -⟩)
  case inr => rw [← HR.out] at hbad; omega
  obtain ⟨n2, HN2⟩ : ∃ n2 : Nat, Hid ((n2 : Int) = ahead row (A + 16) 16) := ⟨(ahead row (A + 16) 16).toNat, by have := (ahead_bound HBT.out (A + 16) 16).1; show _ = _; omega⟩
  have hn2 : n2 < 65536 := by have := (ahead_bound HBT.out (A + 16) 16).2; have := HN2.out; omega
  rw [← HN2.out]
  rw [show A + 16 + 16 = A + 32 by omega] at h4
  have HX4 := hide h4
  obtain ⟨a4, x4, aw4, cw4, hst4, -, -, -⟩ := h4.cells
  obtain ⟨k0, k1, k2, -, k4, -, -, kf⟩ := stO_cells hst4
  have HAT := hide h4.at.2
  obtain ⟨P, HP⟩ : ∃ P, Hid (P = A + 32) := ⟨_, rfl⟩
  rw [← HP.out] at HX4 HAT
  have HU4 := hide (HX4.out.used P)
  clear h4 f0 hst4 HTK2
  by_cases hs : (n1 : Int) + (n2 : Int) = 65535
  case neg =>
    have hs' : (((n1 : Int) + (n2 : Int)) != 65535) = true := by simpa using hs
    have HE : Hid (st1 row L p out = (82, p, out)) := by show _ = _; rw [HRU.out, if_neg (by rw [← HR.out]; omega), ← HN1.out, ← HN2.out, if_pos hs]
    go_wp2
    go_ret
    exact ⟨82, p, out, HE.out, rfl, .inr ⟨by decide, P, out, us, HX4.out, [], (List.append_nil _).symm⟩⟩
  have HRU2 : Hid (st1 row L p out = if L < out.length + n1 then (85, p, out) else if R < P + 8 * n1 then (80, p, out)
      else (0, P + 8 * n1, out ++ pack ((row.drop P).take (8 * n1)))) := by
    show _ = _
    have e : (ahead row A 16).toNat = n1 := by have := HN1.out; omega
    rw [HRU.out, if_neg (by rw [← HR.out]; omega), if_neg (by rw [← HN1.out, ← HN2.out]; simpa using hs), e, ← HP.out, ← HR.out]
  obtain ⟨N, HN⟩ : ∃ N : Nat, Hid (N = out.length) := ⟨_, rfl⟩
  rw [← HN.out] at k2 hoL
  have q1 : ∀ q, (w4.drewN q).cell? ⟨g, 1, none⟩ = some (.int .i64 L) := fun q => k1
  have q2 : ∀ q, (w4.drewN q).cell? ⟨g, 2, none⟩ = some (.slice a4 N x4) := fun q => k2
  have hs0 : (((n1 : Int) + (n2 : Int)) != 65535) = false := by simpa using hs
  by_cases hlim : N + n1 ≤ L
  case neg =>
    have hl1 : decide ((L : Int) < (N : Int) + (n1 : Int)) = true := by simp; omega
    have hl2 : (L : Int) < (N : Int) + (n1 : Int) := by omega
    have HE : Hid (st1 row L p out = (85, p, out)) := by show _ = _; rw [HRU2.out, if_pos (by rw [← HN.out]; omega)]
    clear k0 k4 kf
    go_wp2
    go_quiet (fail)
    go_wp2
    go_ret
    exact ⟨85, p, out, HE.out, rfl, .inr ⟨by decide, P, out, us, HX4.out.below (below_drewN (Below.refl _ _) _), [], (List.append_nil _).symm⟩⟩
  have hl1 : decide ((L : Int) < (N : Int) + (n1 : Int)) = false := by simp; omega
  have hl2 : ¬ ((L : Int) < (N : Int) + (n1 : Int)) := by omega
  have HUQ : Hid (∀ q, SX W ((w4.drewN q).setCell ⟨g, 4, none⟩ (.int .i64 P)) g r row P L out wh P dn er ys ∧ Calls Tryz.prog 71 #[.pointer (some ⟨r, 0, none⟩)] (w4.drewN q) (fun e w' => e = .returned (.int .i64 P) ∧ w' = w4.drewN q)) := fun q => by
    have hq := HX4.out.below (below_drewN (Below.refl _ _) q)
    exact ⟨hq.used P, hq.at.2⟩
  have q0 : ∀ q, (w4.drewN q).cell? ⟨g, 0, none⟩ = some (.pointer (some ⟨r, 0, none⟩)) := fun q => k0
  have q4 : ∀ q, (w4.drewN q).cell? ⟨g, 4, none⟩ = some (.int .i64 us) := fun q => k4
  have qf : ∀ q, (w4.drewN q).frozen? ⟨g, 4, none⟩ = false := fun q => kf 4
  go_wp2
  go_quiet (fail)
  go_wp2_with (go_at_call 71; refine (HUQ.out _).2.mono ?_; rintro e w5 ⟨rfl, hw5⟩; rw [hw5]; clear hw5)
  clear k0 k1 k2 k4 kf q0 q1 q2 q4 qf hl1 hl2 HX4 HU4 HAT
  go_loopw [8, 9, 10] (fun i v x wr => ∃ k : Nat, k ≤ n1 ∧ P + 8 * k ≤ R ∧ i = .int .i64 k ∧ Hid (SX W wr g r row (P + 8 * k) L (out ++ byts row P k) wh ((P + 8 * k : Nat) : Int) dn er ys)) (fun i _ _ _ => n1 - (intOf i).toNat)
  case atStart => exact ⟨0, Nat.zero_le _, by rw [HP.out]; omega, rfl, by
    show SX _ _ _ _ _ _ _ _ _ _ _ _ _
    have := (HUQ.out nq).1
    simpa [byts] using this⟩
  case round =>
    obtain ⟨k, hk, hkR, rfl, HX⟩ := hrel
    clear HUQ
    by_cases hlt : k < n1
    · have hlt' : (k : Int) < (n1 : Int) := by omega
      obtain ⟨Q, HQ⟩ : ∃ Q : Nat, Hid (Q = P + 8 * k) := ⟨_, rfl⟩
      rw [← HQ.out] at HX
      obtain ⟨o', HO'⟩ : ∃ o', Hid (o' = out ++ byts row P k) := ⟨_, rfl⟩
      rw [← HO'.out] at HX
      have hol : o'.length = N + k := by rw [HO'.out, List.length_append, byts_len, ← HN.out]
      have HOL := hide hol
      obtain ⟨a5, x5, aw5, cw5, hst5, -, -, -⟩ := HX.out.cells
      obtain ⟨m0, -⟩ := stO_cells hst5
      have HTK3 := hide (vtake HX.out 8 (by omega))
      clear hst5 hol
      go_wp2_with fail
      refine HTK3.out.mono ?_
      rintro e w6 (⟨hq8, rfl, h6⟩ | ⟨hq8, rfl, hne, h6⟩)
      case inr =>
        have HE : Hid (st1 row L p out = (80, p, out)) := by
          show _ = _
          rw [HRU2.out, if_neg (by rw [← HN.out]; omega), if_pos (by rw [← HR.out] at hq8; have := HQ.out; omega)]
        obtain ⟨Y, HY⟩ : ∃ Y, Hid (Y = takeE row Q (8 : Nat)) := ⟨_, rfl⟩
        obtain ⟨V, HV⟩ : ∃ V, Hid (V = takeV row Q (8 : Nat)) := ⟨_, rfl⟩
        rw [← HY.out, ← HV.out]
        rw [← HY.out] at hne
        have hne' : (Y != 0) = true := by simpa using hne
        have HX6 := hide h6
        clear h6 m0 hne
        go_wp2
        (try simp only [Exit.inBlock, Exit.then])
        go_ret
        exact ⟨80, p, out, HE.out, rfl, .inr ⟨by decide, Q, o', _, HX6.out, _, HO'.out⟩⟩
      obtain ⟨y, HY⟩ : ∃ y, Hid (y = ahead row Q 8) := ⟨_, rfl⟩
      have hy0 : 0 ≤ y := by rw [HY.out]; exact (ahead_bound HBT.out Q 8).1
      have hy1 : y < 256 := by rw [HY.out]; exact (ahead_bound HBT.out Q 8).2
      rw [← HY.out]
      have hu8 : IntKind.u8.wrap y = y := by rw [IntKind.wrap_u8]; omega
      obtain ⟨a7, x7, t2, hob7, hgo⟩ := h6.lit
      obtain ⟨Z, HZ⟩ : ∃ Z : Nat, Hid (Z = o'.length) := ⟨_, rfl⟩
      rw [← HZ.out] at t2 hob7 hgo
      have HOB : Hid (OB (w6.alloc (.cells #[.int .u8 y] 5)) 0 (.slice a7 Z x7) o') := hob7.alloc _
      have HSR : Hid (Src Tryz.prog 1 22 (.slice (some ⟨w6.heap.size, 0, none⟩) 1 1) ([y] : List Int).length (([y] : List Int).map (Value.int .u8)) (w6.alloc (.cells #[.int .u8 y] 5))) := built_src w6 [y]
      have HLB2 : Hid (o'.length + ([y] : List Int).length ≤ 140737488355328) := by show _ ≤ _; rw [HOL.out]; simp; omega
      have HGO := hide hgo
      have hq8R : Q + 8 ≤ R := by rw [HR.out]; exact hq8
      have HQ8 := hide hq8R
      clear hgo hob7 h6 m0 hq8 hq8R HTK3
      go_wp2_with (at_builtin; refine wpList_app rfl _ _ 22 rfl 0 _ _ o' [y] rfl HOB.out rfl HSR.out HLB2.out (Nat.zero_le _) ?_)
      intro v8 w8 ho8 hg8
      obtain ⟨o8, HO8⟩ : ∃ o8, Hid (o8 = o' ++ [y]) := ⟨_, rfl⟩
      rw [← HO8.out] at ho8
      obtain ⟨a8, c8, rfl⟩ := ho8.shape
      obtain ⟨t3, t4, t5⟩ := HGO.out _ w8 _ o8 ((Below.refl _ _).alloc (Nat.le_refl _) _) ho8 hg8
      have ht8 := t5 (by rw [HO8.out, List.length_append, HOL.out]; simp; omega)
      obtain ⟨a9, x9, aw9, cw9, hst9, -, -, -⟩ := ht8.cells
      obtain ⟨l0, -, -, -, l4, -, -, lf⟩ := stO_cells hst9
      have HAT9 := hide ht8.at.2
      have HU9 := hide (ht8.used ((Q + 8 : Nat) : Int))
      have HNE : Hid (o8 = out ++ byts row P (k + 1) ∧ Q + 8 = P + 8 * (k + 1)) := by
        show _ ∧ _
        refine ⟨by rw [HO8.out, HO'.out, byts_succ, List.append_assoc, HY.out, HQ.out], by rw [HQ.out]; omega⟩
      clear ho8 hg8 t5 ht8 hst9 t2
      go_wp2_with (go_at_call 71; refine HAT9.out.mono ?_; rintro e w10 ⟨rfl, hw10⟩; rw [hw10]; clear hw10)
      go_roundw
      case rel => exact ⟨k + 1, by omega, by have := HQ8.out; have := HNE.out.2; omega, by simp, by rw [← HNE.out.1, ← HNE.out.2]; exact HU9⟩
      case measure => simp [intOf]; omega
    · obtain rfl : k = n1 := by omega
      have HE : Hid (st1 row L p out = (0, P + 8 * k, out ++ byts row P k)) := by
        show _ = _
        rw [HRU2.out, if_neg (by rw [← HN.out]; omega), if_neg (by omega), byts_pack HBT.out (by rw [← HR.out]; exact hkR)]
      go_wp2
      (try simp only [Exit.inBlock, Exit.then])
      go_ret
      exact ⟨0, P + 8 * k, out ++ byts row P k, HE.out, rfl, .inl ⟨rfl, HX.out⟩⟩
end Go.Proofs.YtmjdpfigkojolaaGreatDoor

namespace Go.Proofs.YtmjdpfigkojolaaGreatDoor
open Go.RowKit Go.Maps
set_option maxRecDepth 20000
set_option linter.unusedVariables false

set_option maxHeartbeats 8000000 in
theorem hxread8 {W w : World} {xs : List ((Nat → Nat) × Thing)} (H : Herd W w xs) (i : Nat) {K : Nat → Nat} {g : Nat} {row : List Int} {p : Nat} (hi : xs[i]? = some (K, tq g row p)) (hpl : p ≤ row.length) (hbt : Bit row) (O : Xodr W) :
    Calls Tryz.prog 99 #[.pointer (some ⟨g, 0, none⟩)] w fun e w' => ∃ a1 c1 a2 c2 q, e = .returned (.tuple #[.slice a1 (rdA row p).2.1.length c1, .slice a2 (rdA row p).2.2.1.length c2, .int .i64 (rdA row p).1]) ∧ ((rdA row p).1 = 0 → q = (rdA row p).2.2.2) ∧ Herd W w' (xs.set i (K, tq g row q)) ∧ SI w' (.slice a1 (rdA row p).2.1.length c1) (rdA row p).2.1 ∧ SI w' (.slice a2 (rdA row p).2.2.1.length c2) (rdA row p).2.2.1 ∧ ∀ x : Addr, a1 = some x ∨ a2 = some x → ∀ (j : Nat) (d : (Nat → Nat) × Thing), (xs.set i (K, tq g row q))[j]? = some d → d.1 x.block = 0 := by
  have HBT := hide hbt
  have HI := hide hi
  have HO := hide O
  have HTK := hide (hqtake H i hi 14)
  have hab := ahead_bound hbt p 14
  have HNIL : Hid (∀ w' : World, SI w' (.slice none 0 0) []) := fun w' => by
    have h : OI w' 0 (.slice none 0 0) [] := World.ownsRow_nil _ _ _ _
    exact h.sb
  obtain ⟨A, HA⟩ : ∃ A, Hid (A = rdA row p) := ⟨_, rfl⟩
  rw [← HA.out]
  clear H hi O hbt
  go_enter Tryz.func99, Tryz.ntmps99
  go_wp2_with fail
  refine HTK.out.mono ?_
  rintro e w1 ⟨rfl, h1⟩
  have HX1 := hide h1
  clear h1 HTK
  by_cases hl : row.length < p + 14
  · have HE : Hid (rcE row p = 70) := by show _ = _; unfold rcE; rw [if_pos hl]
    have HF : Hid (A = (70, [], [], p)) := by show _ = _; rw [HA.out, rd_c (by rw [HE.out]; decide), HE.out]
    have e30 : takeE row p 14 = 30 := by unfold takeE; rw [if_pos ⟨by omega, by omega⟩, if_neg (by omega)]
    rw [e30]
    clear hab
    go_wp2
    refine bodyPost_ret (v := .tuple #[.slice none 0 0, .slice none 0 0, .int .i64 70]) (by simp [results, Tryz.results99, go_sem]) rfl ?_
    rw [HF.out]
    exact ⟨none, 0, none, 0, _, rfl, fun h => by simp only at h; omega, HX1.out, HNIL.out _, HNIL.out _, fun x hx => by rcases hx with hx | hx <;> cases hx⟩
  obtain ⟨t1, t2, t3⟩ := take_ok (takeOk_of (row := row) (p := p) (n := 14) (by omega) (by omega))
  have t1' : takeE row p 14 = 0 := t1
  have t2' : takeV row p 14 = ahead row p 14 := t2
  have t3' : takeP row p 14 = p + 14 := t3
  rw [t1', t2']
  rw [t3'] at HX1
  have hv2 : ahead row p 14 < 16384 := hab.2
  have hv1 := hab.1
  have HL0 : Hid (rcL row p = 257 + (ahead row p 14 % 32).toNat) := rfl
  have HD0 : Hid (rcD row p = 1 + (ahead row p 14 / 32 % 32).toNat) := rfl
  have HN0 : Hid (rcN row p = 4 + (ahead row p 14 / 1024).toNat) := rfl
  obtain ⟨V, HV⟩ : ∃ V, Hid (V = ahead row p 14) := ⟨_, rfl⟩
  rw [← HV.out] at hv1 hv2 HL0 HD0 HN0 ⊢
  obtain ⟨a, ha⟩ : ∃ a : Nat, 257 + V % 32 = (a : Int) := ⟨(257 + V % 32).toNat, by omega⟩
  obtain ⟨b, hb⟩ : ∃ b : Nat, 1 + V / 32 % 32 = (b : Int) := ⟨(1 + V / 32 % 32).toNat, by omega⟩
  obtain ⟨c, hc⟩ : ∃ c : Nat, 4 + V / 1024 = (c : Int) := ⟨(4 + V / 1024).toNat, by omega⟩
  have HO2 : Hid (a = rcL row p) := by show _ = _; rw [HL0.out]; omega
  have HO3 : Hid (b = rcD row p) := by show _ = _; rw [HD0.out]; omega
  have HO4 : Hid (c = rcN row p) := by show _ = _; rw [HN0.out]; omega
  have ha257 : 257 ≤ a := by omega
  have hb1 : 1 ≤ b := by omega
  have hc19 : c ≤ 19 := by omega
  clear hab t1 t2 t3 t1' t2' t3' HL0 HD0 HN0
  by_cases q1 : 286 < (a : Int)
  · have HE : Hid (rcE row p = 71) := by show _ = _; unfold rcE; rw [if_neg hl, if_pos (.inl (by rw [← HO2.out]; omega))]
    have HF : Hid (A = (71, [], [], p)) := by show _ = _; rw [HA.out, rd_c (by rw [HE.out]; decide), HE.out]
    go_wp2
    refine bodyPost_ret (v := .tuple #[.slice none 0 0, .slice none 0 0, .int .i64 71]) (by simp [results, Tryz.results99, go_sem]) rfl ?_
    rw [HF.out]
    exact ⟨none, 0, none, 0, _, rfl, fun h => by simp only at h; omega, HX1.out, HNIL.out _, HNIL.out _, fun x hx => by rcases hx with hx | hx <;> cases hx⟩
  by_cases q2 : 30 < (b : Int)
  · have HE : Hid (rcE row p = 71) := by show _ = _; unfold rcE; rw [if_neg hl, if_pos (.inr (by rw [← HO3.out]; omega))]
    have HF : Hid (A = (71, [], [], p)) := by show _ = _; rw [HA.out, rd_c (by rw [HE.out]; decide), HE.out]
    have q1' : decide (286 < (a : Int)) = false := decide_eq_false q1
    go_wp2
    refine bodyPost_ret (v := .tuple #[.slice none 0 0, .slice none 0 0, .int .i64 71]) (by simp [results, Tryz.results99, go_sem]) rfl ?_
    rw [HF.out]
    exact ⟨none, 0, none, 0, _, rfl, fun h => by simp only at h; omega, HX1.out, HNIL.out _, HNIL.out _, fun x hx => by rcases hx with hx | hx <;> cases hx⟩
  have HRC : Hid (rcE row p = 0) := by show _ = _; unfold rcE; rw [if_neg hl, if_neg (by rw [← HO2.out, ← HO3.out]; omega)]
  have HSM := hide (hxsmall HX1.out i (getset HI.out) c hc19 (by omega) HBT.out HO.out)
  rw [List.set_set] at HSM
  go_wp2_with fail
  refine HSM.out.mono ?_
  rintro e w2 (⟨hne, rfl, q, h2⟩ | ⟨hz, gb, Kc, rfl, h2⟩)
  · obtain ⟨E2, HE2⟩ : ∃ E2, Hid (E2 = smE row (p + 14) c) := ⟨_, rfl⟩
    rw [← HE2.out] at hne ⊢
    have e2' : (E2 != 0) = true := by simpa using hne
    have HF : Hid (A = (E2, [], [], p)) := by show _ = _; rw [HA.out, HE2.out, HO4.out]; exact rd_s HRC.out (by rw [← HO4.out, ← HE2.out]; exact hne)
    rw [List.set_set] at h2
    have HN := hide h2
    clear h2
    go_wp2
    refine bodyPost_ret (v := .tuple #[.slice none 0 0, .slice none 0 0, .int .i64 E2]) (by simp [results, Tryz.results99, go_sem]) rfl ?_
    rw [HF.out]
    exact ⟨none, 0, none, 0, q, rfl, fun h => absurd h hne, HN.out, HNIL.out _, HNIL.out _, fun x hx => by rcases hx with hx | hx <;> cases hx⟩
  have HSE : Hid (smE row (p + 14) (rcN row p) = 0) := by rw [← HO4.out]; exact hide hz
  have hdc : dcE (smC row (p + 14) c) = 0 := by
    unfold smE at hz
    by_cases z0 : row.length < p + 14 + 3 * c
    · rw [if_pos z0] at hz; omega
    · rw [if_neg z0] at hz
      by_cases z1 : chkS (smC row (p + 14) c) ≠ 4
      · rw [if_pos z1] at hz; omega
      · have hS : chkS (smC row (p + 14) c) = 4 := by omega
        unfold chkS at hS
        by_cases q : Lens (smC row (p + 14) c)
        · rw [if_pos q] at hS
          refine (dcE_iff _).2 ⟨?_, .inr hS⟩
          unfold chkE
          rw [if_neg (by have := q.1; omega), if_pos q]
        · rw [if_neg q] at hS; omega
  have HLE := hide (hxlists h2 i (get_front (getset HI.out)) _ (smC row (p + 14) c) (h2.isi _ (get_last _ _)) (smC_len19 _ _ _) hdc HBT.out (a + b) (by omega))
  clear h2 hz hdc HSM
  obtain ⟨x, hx⟩ : ∃ x, rl (smC row (p + 14) c) row (a + b) (a + b) [] (p + 14 + 3 * c) = x := ⟨_, rfl⟩
  rw [hx] at HLE
  have HRD := hide (rd_l HRC.out HSE.out (x := x) (by rw [← HO2.out, ← HO3.out, ← HO4.out]; exact hx))
  rw [← HA.out, ← HO2.out] at HRD
  have HRF := hide (rl_facts (C := smC row (p + 14) c) HBT.out (a + b) (a + b) [] (p + 14 + 3 * c) (by simp) (by simp) (by simp))
  rw [hx] at HRF
  obtain ⟨E3, L, Q⟩ := x
  simp only at HRD HLE HRF
  clear hx
  go_wp2_with fail
  refine HLE.out.mono ?_
  rintro e w3 (⟨hne, rfl, q3, h3⟩ | ⟨hz, aL, cL, Kl, rfl, h3⟩)
  · rw [setf (getset HI.out), List.set_set] at h3
    have e3' : (E3 != 0) = true := by simpa using hne
    have HF : Hid (A = (E3, [], [], p)) := by show _ = _; rw [HRD.out, if_pos hne]
    have HN := hide h3.front
    clear h3
    go_wp2
    refine bodyPost_ret (v := .tuple #[.slice none 0 0, .slice none 0 0, .int .i64 E3]) (by simp [results, Tryz.results99, go_sem]) rfl ?_
    rw [HF.out]
    exact ⟨none, 0, none, 0, q3, rfl, fun h => absurd h hne, HN.out, HNIL.out _, HNIL.out _, fun x hx => by rcases hx with hx | hx <;> cases hx⟩
  subst hz
  rw [setf (getset HI.out), List.set_set] at h3
  have hll : L.length = a + b := (HRF.out rfl).1
  have hoL := h3.ioi _ (get_last _ _)
  obtain ⟨gJ, cJ, hv, hJ1, hJ2, hJ3, hJ4⟩ := hoL.form (by omega)
  simp only [Value.slice.injEq, true_and] at hv
  obtain ⟨rfl, rfl⟩ := hv
  have hsj := hoL.sb
  have hP1 : SI w3 (.slice (some ⟨gJ, 0, none⟩) a cL) (L.take a) := by
    have := hsj.sub (i := 0) (j := a) (Nat.zero_le _) (by omega)
    rwa [List.drop_zero, Nat.sub_zero, Nat.sub_zero, Nat.add_zero] at this
  have hP2 : SI w3 (.slice (some ⟨gJ, a, none⟩) b (cL - a)) (L.drop a) := by
    have := hsj.sub (i := a) (j := a + b) (by omega) (by omega)
    rwa [Nat.zero_add, Nat.add_sub_cancel_left, List.take_of_length_le (by rw [List.length_drop]; omega)] at this
  have htl : (L.take a).length = a := by rw [List.length_take]; omega
  have hdl : (L.drop a).length = b := by rw [List.length_drop]; omega
  have HP1 := hide hP1
  have HP2 := hide hP2
  have HX3 := hide h3.front.front
  have HSP : Hid (∀ (j : Nat) (d : (Nat → Nat) × Thing), (xs.set i (K, tq g row Q))[j]? = some d → d.1 gJ = 0) := fun j d hd => by
    have hp := h3.rep _ _ (get_last _ _)
    have hk : Kl gJ ≠ 0 := hp.2.1 gJ rfl
    have hj : j < (xs.set i (K, tq g row Q)).length := by
      rcases Nat.lt_or_ge j (xs.set i (K, tq g row Q)).length with q | q
      · exact q
      · rw [List.getElem?_eq_none q] at hd; cases hd
    exact h3.sep _ j _ _ (get_last _ _) (get_front (get_front hd)) (by rw [List.length_append]; omega) gJ hk
  have HTL := hide htl
  have HDL := hide hdl
  have hcap : a + b ≤ cL := by omega
  have hcap1 : ¬ (cL : Int) < (a : Int) := by omega
  have hcap2 : ¬ cL = a := by omega
  have hla : ¬ ((a + b : Nat) : Int) < (a : Int) := by omega
  have hce : (cL : Int) - (a : Int) = ((cL - a : Nat) : Int) := by omega
  have hla2 : ((a + b : Nat) : Int) - (a : Int) = (b : Int) := by omega
  have HCD := hide (zcodes_any _ _ (L.take a) (L.drop a) w3 hP1 hP2 (by rw [htl]; exact ha257))
  rw [hll]
  clear h3 hoL hsj hP1 hP2 htl hdl HLE
  go_wp2_with fail
  refine HCD.out.mono ?_
  rintro e w4 ⟨rfl, hw4⟩
  rw [hw4]
  clear hw4
  obtain ⟨E4, HE4⟩ : ∃ E4, Hid (E4 = hck (L.take a) (L.drop a)) := ⟨_, rfl⟩
  rw [← HE4.out] at HRD ⊢
  by_cases e4 : E4 = 0
  · subst e4
    have HF : Hid (A = (0, L.take a, L.drop a, Q)) := by show _ = _; rw [HRD.out, if_neg (by simp), if_neg (by simp)]
    go_wp2
    refine bodyPost_ret (v := .tuple #[.slice (some ⟨gJ, 0, none⟩) a cL, .slice (some ⟨gJ, a, none⟩) b (cL - a), .int .i64 0]) (by simp [results, Tryz.results99, go_sem]) rfl ?_
    rw [HF.out]
    simp only
    rw [HTL.out, HDL.out]
    exact ⟨_, _, _, _, Q, rfl, fun _ => rfl, HX3.out, HP1.out, HP2.out, fun x hx => by
      have : x.block = gJ := by rcases hx with hx | hx <;> (injection hx with hx; rw [← hx])
      rw [this]
      exact HSP.out⟩
  · have e4' : (E4 != 0) = true := by simpa using e4
    have HF : Hid (A = (E4, [], [], p)) := by show _ = _; rw [HRD.out, if_neg (by simp), if_pos e4]
    go_wp2
    refine bodyPost_ret (v := .tuple #[.slice none 0 0, .slice none 0 0, .int .i64 E4]) (by simp [results, Tryz.results99, go_sem]) rfl ?_
    rw [HF.out]
    exact ⟨none, 0, none, 0, Q, rfl, fun h => absurd h e4, HX3.out, HNIL.out _, HNIL.out _, fun x hx => by rcases hx with hx | hx <;> cases hx⟩
end Go.Proofs.YtmjdpfigkojolaaGreatDoor

namespace Go.Proofs.YtmjdpfigkojolaaGreatDoor
open Go.RowKit Go.Maps
set_option maxRecDepth 20000
set_option linter.unusedVariables false

variable {W w : World} {g r : Nat} {row : List Int} {p L : Nat} {out : List Int} {wh : List (Array Value)} {us : Int} {dn : Bool} {er : Int} {ys : List ((Nat → Nat) × Thing)}

theorem si_set {w : World} {a : Option Addr} {n c : Nat} {l : List Int} (h : SI w (.slice a n c) l) {g k : Nat} {u : Value} (hg : ∀ x : Addr, a = some x → x.block ≠ g) : SI (w.setCell ⟨g, k, none⟩ u) (.slice a n c) l := by
  refine h.move fun y v hy ho => ?_
  cases a with
  | none => cases ho
  | some x =>
    have hb : y.block ≠ g := by
      have h1 : x.block = y.block := by injection ho
      rw [← h1]; exact hg x rfl
    have := Below.heap_setCell w ⟨g, k, none⟩ u y.block hb
    rw [← hy]
    unfold World.cell?
    rw [this]

theorem vread (h : SX W w g r row p L out wh us dn er ys) (O : Xodr W) :
    Calls Tryz.prog 99 #[.pointer (some ⟨r, 0, none⟩)] w fun e w' => ∃ a1 c1 a2 c2 q, e = .returned (.tuple #[.slice a1 (rdA row p).2.1.length c1, .slice a2 (rdA row p).2.2.1.length c2, .int .i64 (rdA row p).1]) ∧ ((rdA row p).1 = 0 → q = (rdA row p).2.2.2) ∧ SX W w' g r row q L out wh us dn er ys ∧ (∀ k u, SI (w'.setCell ⟨g, k, none⟩ u) (.slice a1 (rdA row p).2.1.length c1) (rdA row p).2.1 ∧ SI (w'.setCell ⟨g, k, none⟩ u) (.slice a2 (rdA row p).2.2.1.length c2) (rdA row p).2.2.1) := by
  obtain ⟨hbit, hp, -, -⟩ := h.rd
  obtain ⟨Kt, Kr, Ko, Kw, a, c, aw, cw, H, k1, k2, k3⟩ := h
  refine (hxread8 H 1 rfl hp hbit O).mono ?_
  rintro e w1 ⟨a1, c1, a2, c2, q, rfl, hq, h1, s1, s2, hs⟩
  simp only [List.set_cons_succ, List.set_cons_zero] at h1 hs
  have h0 : (tb g (stO r L a out.length c aw wh.length cw us dn er)).P w1 Kt := h1.rep 0 _ rfl
  have hne : ∀ x : Addr, a1 = some x ∨ a2 = some x → x.block ≠ g := fun x hx e => by
    have := hs x hx 0 _ rfl
    rw [e] at this
    exact h0.2.1 this
  exact ⟨a1, c1, a2, c2, q, rfl, hq, ⟨Kt, Kr, Ko, Kw, a, c, aw, cw, h1, k1, k2, k3⟩, fun k u => ⟨si_set s1 fun x hx => hne x (.inl hx), si_set s2 fun x hx => hne x (.inr hx)⟩⟩

set_option maxHeartbeats 4000000 in
theorem vdynamic (h : SX W w g r row p L out wh us dn er ys) (O : Xodr W) :
    Calls Tryz.prog 77 #[.pointer (some ⟨g, 0, none⟩)] w fun e w' => ∃ E q o, (((rdA row p).1 ≠ 0 ∧ E = (rdA row p).1) ∨ ((rdA row p).1 = 0 ∧ Sys (rdA row p).2.1 (rdA row p).2.2.1 row L (rdA row p).2.2.2 out E q o)) ∧ e = .returned (.int .i64 E) ∧ ((E = 0 ∧ ∃ zs, SX W w' g r row q L o wh q dn er (ys ++ zs)) ∨ (E ≠ 0 ∧ ∃ q' o' us' zs, SXe out W w' g r row q' L o' wh us' dn er (ys ++ zs))) := by
  have HGD0 := hide (fun e => rd_good (p := p) h.rd.1 e)
  have HRD := hide (vread h O)
  obtain ⟨a, c, aw, cw, hst, -, -, -⟩ := h.cells
  obtain ⟨c0, -⟩ := stO_cells hst
  obtain ⟨E1, HE1⟩ : ∃ E1, Hid (E1 = (rdA row p).1) := ⟨_, rfl⟩
  obtain ⟨l, HL⟩ : ∃ l, Hid (l = (rdA row p).2.1) := ⟨_, rfl⟩
  obtain ⟨d, HD⟩ : ∃ d, Hid (d = (rdA row p).2.2.1) := ⟨_, rfl⟩
  obtain ⟨P, HP⟩ : ∃ P, Hid (P = (rdA row p).2.2.2) := ⟨_, rfl⟩
  have HGD : Hid (E1 = 0 → dcE l = 0 ∧ l.length ≤ 286 ∧ d.length ≤ 30) := by rw [HE1.out, HL.out, HD.out]; exact HGD0
  rw [← HE1.out, ← HL.out, ← HD.out, ← HP.out]
  rw [← HE1.out, ← HL.out, ← HD.out, ← HP.out] at HRD
  clear h hst HGD0
  go_enter Tryz.func77, Tryz.ntmps77
  go_wp2_with fail
  refine HRD.out.mono ?_
  rintro e w1 ⟨a1, c1, a2, c2, q, rfl, hq, h1, hs⟩
  by_cases e0 : E1 = 0
  · obtain rfl := hq e0
    rw [e0]
    obtain ⟨g1, g2, g3⟩ := HGD.out e0
    obtain ⟨a5, x5, aw5, cw5, hst5, -, -, -⟩ := h1.cells
    obtain ⟨d0, -, -, -, d4, -, -, df⟩ := stO_cells hst5
    have HAT := hide h1.at.2
    have HSY := hide (vsymbols (h1.used q) _ _ l d (hs 4 (.int .i64 q)).1 (hs 4 (.int .i64 q)).2 g1 (by omega) (by omega))
    clear h1 hst5 hs g1 g2 g3 c0 HRD
    go_wp2_with (go_at_call 71; refine HAT.out.mono ?_; rintro e w2 ⟨rfl, hw2⟩; rw [hw2]; clear hw2)
    refine HSY.out.mono ?_
    rintro e w3 ⟨E, q3, o3, hS, rfl, h3⟩
    have HS := hide hS
    have H3 := hide h3
    clear hS h3
    go_wp2
    go_ret
    exact ⟨E, q3, o3, .inr ⟨e0, HS.out⟩, rfl, H3.out⟩
  · have e0' : (E1 != 0) = true := by simpa using e0
    have HX := hide h1
    clear h1 hs c0
    go_wp2
    go_ret
    exact ⟨E1, 0, [], .inl ⟨e0, rfl⟩, rfl, .inr ⟨e0, q, out, us, [], by rw [List.append_nil]; exact HX.out, [], (List.append_nil _).symm⟩⟩
end Go.Proofs.YtmjdpfigkojolaaGreatDoor

namespace Go.Proofs.YtmjdpfigkojolaaGreatDoor
open Go.RowKit Go.Maps
set_option maxRecDepth 20000
set_option linter.unusedVariables false

abbrev pdO (k : Int) (f : Bool) (a b c d : Int) : Obj := .cells #[.int .i64 k, .bool f, .int .i64 a, .int .i64 b, .int .i64 c, .int .i64 d] 36

theorem pd_cells {w : World} {g : Nat} {k : Int} {f : Bool} {a b c d : Int} (h : w.heap[g]? = some (pdO k f a b c d)) :
    w.cell? ⟨g, 0, none⟩ = some (.int .i64 k) ∧ w.cell? ⟨g, 1, none⟩ = some (.bool f) ∧ w.cell? ⟨g, 2, none⟩ = some (.int .i64 a) ∧ w.cell? ⟨g, 3, none⟩ = some (.int .i64 b) ∧ w.cell? ⟨g, 4, none⟩ = some (.int .i64 c) ∧ w.cell? ⟨g, 5, none⟩ = some (.int .i64 d) ∧ ∀ i, w.frozen? ⟨g, i, none⟩ = false := by
  refine ⟨?_, ?_, ?_, ?_, ?_, ?_, fun i => ?_⟩
  all_goals first | (unfold World.cell?; rw [h]; rfl) | (unfold World.frozen?; rw [h]; rfl)

theorem infoPc8 : (Tryz.prog.info? 36).map (fun i => (i.zero, i.size, i.bytes)) = some (some (.agg #[.int .i64 0, .bool false, .int .i64 0, .int .i64 0, .int .i64 0, .int .i64 0]), 6, 48) := by kernel_rfl

theorem stepRowp {w : World} {ops : Array Oper} {o : Oper} {a : Act} {K : Act → World → Prop} {Q : Exit → Act → World → Prop} {E : Prop} (hgd : o.guard = none) (s x : Operand)
    (ho : o.op = .call { callee := .builtin .append, args := #[s, x], argTypes := #[24, 24] })
    (base : Nat) (v : Value) (R : List (Array Value)) (r : Array Value) (B c n m : Nat) (fr : Nat × Nat) (hs : a.eval s = v) (hown : ORp 36 6 w base v R)
    (hx : a.eval x = .slice (some ⟨B, 0, none⟩) 1 c) (hB : w.heap[B]? = some (.cells r 36 fr)) (hr : r.size = 6) (h1 : ∀ u ∈ r.toList, u.oneCell' = true)
    (hlen : R.length ≤ 268435456) (hm : m = R.length + 1) (hbase : base ≤ w.heap.size)
    (h : ∀ g cap w', ORp 36 6 w' base (.slice (some ⟨g, 0, none⟩) m cap) (R ++ [r]) → w.grownBy w' v.ownBlock → (v.ownBlock = some g ∨ g = w.heap.size) → K (a.put o.dst (.slice (some ⟨g, 0, none⟩) m cap)) w') :
    if Region.wanted o (yielded ops a.tmps) = true then Oper.wp Tryz.prog o a w K Q else E := by
  subst hm
  obtain ⟨i0, hi0, hz0, hz1, hz2⟩ := info_parts infoPc8
  have hw : Region.wanted o (yielded ops a.tmps) = true := by simp [Region.wanted, hgd]
  rw [if_pos hw]
  refine wp_append_lies _ s x 24 ho base 36 i0 _ 6 48 Tryz.underlying24 hi0 hz0 hz1 hz2 rfl (by omega) v R.length (flr R) hs hown.2 ⟨B, 0, none⟩ 1 c r.toList hx (by rw [Array.length_toList, hr, Nat.one_mul]) (World.news_of_block hB) h1 (by omega) (by unfold maxLen; omega) (by omega) hbase _ rfl fun g cap w' g1 g2 g4 _ => h g cap w' ⟨?_, ?_⟩ g2 g4
  · intro q hq
    rcases List.mem_append.1 hq with hq | hq
    · exact hown.1 q hq
    · rw [List.mem_singleton.1 hq]; exact hr
  · rw [List.length_append, flr_app]
    simpa [flr] using g1

theorem at_4 {α : Type} (x y z u a : α) (zr : List α) : ∀ ys : List α, (x :: y :: z :: u :: (ys ++ a :: zr))[ys.length + 4]? = some a := fun ys => by simp
theorem set_4 {α : Type} (x y z u a b : α) (zr ys : List α) : (x :: y :: z :: u :: (ys ++ a :: zr)).set (ys.length + 4) b = x :: y :: z :: u :: (ys ++ b :: zr) := by simp

variable {W w : World} {g r : Nat} {row : List Int} {p L : Nat} {out : List Int} {wh : List (Array Value)} {us : Int} {dn : Bool} {er : Int} {ys zs : List ((Nat → Nat) × Thing)}

theorem SX.push (h : SX W w g r row p L out wh us dn er ys) (o : Obj) : ∃ K, SX W (w.alloc o) g r row p L out wh us dn er (ys ++ [(K, tb w.heap.size o)]) := by
  obtain ⟨Kt, Kr, Ko, Kw, a, c, aw, cw, H, k⟩ := h
  obtain ⟨K, h⟩ := H.box1 o
  exact ⟨K, Kt, Kr, Ko, Kw, a, c, aw, cw, h, k⟩

theorem SX.box {K : Nat → Nat} {b : Nat} {o : Obj} (h : SX W w g r row p L out wh us dn er (ys ++ (K, tb b o) :: zs)) : w.heap[b]? = some o := by
  obtain ⟨Kt, Kr, Ko, Kw, a, c, aw, cw, H, k⟩ := h
  exact H.tbat _ (at_4 _ _ _ _ _ _ _)

theorem SX.bput {K : Nat → Nat} {b : Nat} {cur : Array Value} {t : TypeId} (h : SX W w g r row p L out wh us dn er (ys ++ (K, tb b (.cells cur t (0, 0))) :: zs)) (k : Nat) (u : Value) : SX W (w.setCell ⟨b, k, none⟩ u) g r row p L out wh us dn er (ys ++ (K, tb b (.cells (cur.setIfInBounds k u) t (0, 0))) :: zs) := by
  obtain ⟨Kt, Kr, Ko, Kw, a, c, aw, cw, H, hk⟩ := h
  have h := H.bput _ (at_4 _ _ _ _ _ _ _) k u
  rw [set_4] at h
  exact ⟨Kt, Kr, Ko, Kw, a, c, aw, cw, h, hk⟩

theorem SX.done (h : SX W w g r row p L out wh us dn er ys) (b : Bool) : SX W (w.setCell ⟨g, 5, none⟩ (.bool b)) g r row p L out wh us b er ys := by
  obtain ⟨Kt, Kr, Ko, Kw, a, c, aw, cw, H, k⟩ := h
  exact ⟨Kt, Kr, Ko, Kw, a, c, aw, cw, H.bput 0 rfl 5 (.bool b), k⟩

theorem SX.err (h : SX W w g r row p L out wh us dn er ys) (e : Int) : SX W (w.setCell ⟨g, 6, none⟩ (.int .i64 e)) g r row p L out wh us dn e ys := by
  obtain ⟨Kt, Kr, Ko, Kw, a, c, aw, cw, H, k⟩ := h
  exact ⟨Kt, Kr, Ko, Kw, a, c, aw, cw, H.bput 0 rfl 6 (.int .i64 e), k⟩

theorem SX.p1 {K : Nat → Nat} {b : Nat} {k : Int} {f : Bool} {x y u v : Int} (h : SX W w g r row p L out wh us dn er (ys ++ (K, tb b (pdO k f x y u v)) :: zs)) (f' : Bool) : SX W (w.setCell ⟨b, 1, none⟩ (.bool f')) g r row p L out wh us dn er (ys ++ (K, tb b (pdO k f' x y u v)) :: zs) := h.bput 1 (.bool f')
theorem SX.p0 {K : Nat → Nat} {b : Nat} {k : Int} {f : Bool} {x y u v : Int} (h : SX W w g r row p L out wh us dn er (ys ++ (K, tb b (pdO k f x y u v)) :: zs)) (k' : Int) : SX W (w.setCell ⟨b, 0, none⟩ (.int .i64 k')) g r row p L out wh us dn er (ys ++ (K, tb b (pdO k' f x y u v)) :: zs) := h.bput 0 (.int .i64 k')
theorem SX.p3 {K : Nat → Nat} {b : Nat} {k : Int} {f : Bool} {x y u v : Int} (h : SX W w g r row p L out wh us dn er (ys ++ (K, tb b (pdO k f x y u v)) :: zs)) (y' : Int) : SX W (w.setCell ⟨b, 3, none⟩ (.int .i64 y')) g r row p L out wh us dn er (ys ++ (K, tb b (pdO k f x y' u v)) :: zs) := h.bput 3 (.int .i64 y')
theorem SX.p5 {K : Nat → Nat} {b : Nat} {k : Int} {f : Bool} {x y u v : Int} (h : SX W w g r row p L out wh us dn er (ys ++ (K, tb b (pdO k f x y u v)) :: zs)) (v' : Int) : SX W (w.setCell ⟨b, 5, none⟩ (.int .i64 v')) g r row p L out wh us dn er (ys ++ (K, tb b (pdO k f x y u v')) :: zs) := h.bput 5 (.int .i64 v')

theorem SX.whole (h : SX W w g r row p L out wh us dn er ys) : ∃ a c, w.cell? ⟨g, 3, none⟩ = some (.slice a wh.length c) ∧ ORp 36 6 w 0 (.slice a wh.length c) wh ∧ wh.length ≤ 268435456 ∧
    ∀ (w1 w6 : World) (b n cap : Nat) (wh' : List (Array Value)), Below w.heap.size w w1 → ORp 36 6 w6 0 (.slice (some ⟨b, 0, none⟩) n cap) wh' → n = wh'.length → w1.grownBy w6 (Value.slice a wh.length c).ownBlock → ((Value.slice a wh.length c).ownBlock = some b ∨ b = w1.heap.size) → w6.cell? ⟨g, 3, none⟩ = some (.slice a wh.length c) ∧ (∀ k, w6.frozen? ⟨g, k, none⟩ = false) ∧ (wh'.length ≤ 268435456 → SX W (w6.setCell ⟨g, 3, none⟩ (.slice (some ⟨b, 0, none⟩) n cap)) g r row p L out wh' us dn er ys) := by
  obtain ⟨Kt, Kr, Ko, Kw, ao, co, a, c, HH, hoL, hL, hwp⟩ := h
  have h0 : (tb g (stO r L ao out.length co a wh.length c us dn er)).P w Kt := HH.rep 0 _ rfl
  have h3 : (tor (.slice a wh.length c) wh).P w Kw := HH.rep 3 _ rfl
  refine ⟨a, c, (stO_cells h0.1).2.2.2.1, h3.1, hwp, fun w1 w6 b n cap wh' hb ho hn hg hat => ?_⟩
  subst hn
  have hgs := h0.2.2 g h0.2.1
  have e1 : w6.heap[g]? = w1.heap[g]? := hg.block g (Nat.lt_of_lt_of_le hgs hb.size) (fun e => by
    have := HH.sep 0 3 _ _ rfl rfl (by decide) g h0.2.1
    exact h3.2.1 g e.symm this)
  have e2 : w6.heap[g]? = some (stO r L ao out.length co a wh.length c us dn er) := e1.trans ((hb.block g hgs).trans h0.1)
  refine ⟨(stO_cells e2).2.2.2.1, (stO_cells e2).2.2.2.2.2.2.2, fun hL' => ?_⟩
  have H1 := HH.below hb
  have hp : (tor (.slice a wh.length c) wh).P w1 Kw := H1.rep 3 _ rfl
  have h4 := H1.op 3 rfl (x' := tor (.slice (some ⟨b, 0, none⟩) wh'.length cap) wh') (K' := fun k => if k < w1.heap.size then Kw k else if b = k then 1 else 0) (w' := w6) ⟨ho, fun k hk => ?_, fun k hk => ?_⟩ ⟨hg.os, hg.tape, hg.output, hg.size, fun k hk h0 => hg.block k hk (fun e => hp.2.1 k e.symm h0), fun k hk => by simp [hk]⟩
  · simp only [List.set_cons_succ, List.set_cons_zero] at h4
    exact ⟨Kt, Kr, Ko, _, ao, co, some ⟨b, 0, none⟩, cap, h4.bput 0 rfl 3 (.slice (some ⟨b, 0, none⟩) wh'.length cap), hoL, hL, hL'⟩
  · have hk' : b = k := by injection hk
    subst hk'
    by_cases c0 : b < w1.heap.size
    · simp only [c0, if_true]
      rcases hat with e | e
      · exact hp.2.1 b e
      · omega
    · simp [c0]
  · by_cases c0 : k < w1.heap.size
    · exact Nat.lt_of_lt_of_le c0 hg.size
    · simp only [c0, if_false] at hk
      by_cases e : b = k
      · subst e; exact (ho.lt b rfl).2
      · simp [e] at hk
end Go.Proofs.YtmjdpfigkojolaaGreatDoor

namespace Go.Proofs.YtmjdpfigkojolaaGreatDoor
open Go.RowKit Go.Maps
set_option maxRecDepth 20000
set_option linter.unusedVariables false

theorem ahead3 {row : List Int} {p : Nat} (hb : Bit row) (h : p + 3 ≤ row.length) : ahead row p 3 % 2 = ahead row p 1 ∧ ahead row p 3 / 2 = ahead row (p + 1) 2 := by
  have e : row.drop p = row[p] :: row.drop (p + 1) := List.drop_eq_getElem_cons (by omega)
  have h1 : ahead row p 3 = row[p] + 2 * ahead row (p + 1) 2 := by unfold ahead; rw [e]; rfl
  have h2 : ahead row p 1 = row[p] := by unfold ahead; rw [e]; show row[p] + 2 * 0 = row[p]; omega
  have h3 := hb row[p] (List.getElem_mem _)
  omega

variable {W w : World} {g r : Nat} {row : List Int} {p L : Nat} {out : List Int} {wh : List (Array Value)} {us : Int} {dn : Bool} {er : Int} {ys : List ((Nat → Nat) × Thing)}

theorem SX.isi (h : SX W w g r row p L out wh us dn er ys) (i : Nat) {K : Nat → Nat} {v : Value} {l : List Int} (hi : ys[i]? = some (K, ti v l)) : SI w v l := by
  obtain ⟨Kt, Kr, Ko, Kw, a, c, aw, cw, H, k⟩ := h
  exact H.isi (i + 4) (by simpa using hi)

theorem vflit (h : SX W w g r row p L out wh us dn er ys) : Calls Tryz.prog 75 #[] w fun e w' => ∃ a c K, e = .returned (.slice a FL.length c) ∧ SX W w' g r row p L out wh us dn er (ys ++ [(K, ti (.slice a FL.length c) FL)]) := by
  obtain ⟨Kt, Kr, Ko, Kw, a, c, aw, cw, H, k⟩ := h
  refine (hxflit H fl_is).mono ?_
  rintro e w1 ⟨a1, c1, K, rfl, h1⟩
  exact ⟨a1, c1, K, rfl, Kt, Kr, Ko, Kw, a, c, aw, cw, h1, k⟩

theorem vfdist (h : SX W w g r row p L out wh us dn er ys) : Calls Tryz.prog 76 #[] w fun e w' => ∃ a c K, e = .returned (.slice a FD.length c) ∧ SX W w' g r row p L out wh us dn er (ys ++ [(K, ti (.slice a FD.length c) FD)]) := by
  obtain ⟨Kt, Kr, Ko, Kw, a, c, aw, cw, H, k⟩ := h
  refine (hxfdist H (D := FD) rfl).mono ?_
  rintro e w1 ⟨a1, c1, K, rfl, h1⟩
  exact ⟨a1, c1, K, rfl, Kt, Kr, Ko, Kw, a, c, aw, cw, h1, k⟩
end Go.Proofs.YtmjdpfigkojolaaGreatDoor

