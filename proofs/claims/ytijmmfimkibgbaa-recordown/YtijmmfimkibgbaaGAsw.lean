import Derived.Test.YtijmmfimkibgbaaGAsp
import Derived.BigQuiet
import Derived.Deep.QuietTactic
namespace Go.Proofs.Ytijmmfimkibgbaa
open Go.RowKit Go.Maps
set_option maxRecDepth 20000
set_option linter.unusedVariables false
set_option linter.unusedSimpArgs false

set_option maxHeartbeats 16000000 in
theorem asked12_walk (c : Cen) (x : Enr) (okc : c.Ok) (okx : x.Ok) (hf : fitI (ceI c)) (hf2 : fitI (enI x)) (w : World) :
    Calls Try.prog 11 #[c.v, x.v] w fun e w' => e = .returned (.bool true) ∧ Below w.heap.size w w' := by
  obtain ⟨CA, hCA⟩ : ∃ A, A = c.cs := ⟨_, rfl⟩
  have HSCA : Hid (CA.size = 16) := by rw [hCA]; exact rsC _
  have HECA := hide hCA
  obtain ⟨XA, hXA⟩ : ∃ A, A = x.cs := ⟨_, rfl⟩
  have HSXA : Hid (XA.size = 7) := by rw [hXA]; exact rsE _
  have HEXA := hide hXA
  obtain ⟨LA, hLA⟩ : ∃ A, A = c.loc.cs := ⟨_, rfl⟩
  have HSLA : Hid (LA.size = 10) := by rw [hLA]; exact rsL _
  have HELA := hide hLA
  have HCV : Hid (c.v = .agg CA) := by show _ = _; rw [hCA]; rfl
  have HXV : Hid (x.v = .agg XA) := by show _ = _; rw [hXA]; rfl
  have hfl := ce_lo_fit hf
  obtain ⟨A, hA⟩ : ∃ A, A = rowI (ceI c) := ⟨_, rfl⟩
  obtain ⟨B, hB⟩ : ∃ A, A = rowI (enI x) := ⟨_, rfl⟩
  obtain ⟨K, hK⟩ : ∃ A, A = rowI (loI c.loc) := ⟨_, rfl⟩
  obtain ⟨S, hS⟩ : ∃ A, A = rowI (dsI c.loc true) := ⟨_, rfl⟩
  obtain ⟨U, hU⟩ : ∃ A, A = rowI (dsI c.loc false) := ⟨_, rfl⟩
  have HPA : Hid (Puts 6 #[.agg CA] A) := by rw [hCA, hA]; exact putsC c okc hf
  have HPB : Hid (Puts 7 #[.agg XA] B) := by rw [hXA, hB]; exact putsE x okx hf2
  have HPK : Hid (Puts 30 #[.agg LA] K) := by rw [hLA, hK]; exact putsL _ okc.loc hfl
  have HPS : Hid (Puts 31 #[.agg LA, .bool true] S) := by rw [hLA, hS]; exact putsD _ okc.loc hfl true
  have HPU : Hid (Puts 31 #[.agg LA, .bool false] U) := by rw [hLA, hU]; exact putsD _ okc.loc hfl false
  obtain ⟨Y, hY, hpo⟩ := putsO
  have HPO := hide hpo
  obtain ⟨CS, hCS⟩ : ∃ l, l = [A, B, K, S, U] := ⟨_, rfl⟩
  have HC5 : Hid (CS.length = 5) := by rw [hCS]; rfl
  have HCB : Hid (∀ l ∈ CS, 12 ≤ l.length ∧ l.length ≤ 200000) := by
    rw [hCS]
    intro l hl
    simp only [List.mem_cons, List.not_mem_nil, or_false] at hl
    have r1 := rwC c hf
    have r2 := rwE x hf2
    have r3 := rwL c.loc hfl
    have n1 := r1.n
    have n2 := r2.n
    have n3 := r3.n
    have m1 := r1.len
    have m2 := r2.len
    have m3 := r3.len
    rcases hl with rfl | rfl | rfl | rfl | rfl
    · rw [hA]; omega
    · rw [hB]; omega
    · rw [hK]; omega
    · rw [hS]; exact ds_size _ _
    · rw [hU]; exact ds_size _ _
  have HCE := hide hCS
  obtain ⟨i8, hi8, hz80, hz81, hz82⟩ := info_parts info28
  have HI8 := hide hi8
  have HZ80 := hide hz80
  have HZ81 := hide hz81
  have HZ82 := hide hz82
  rw [HCV.out, HXV.out]
  clear hA hB hK hS hU hCS hf hf2 hfl okc okx hCA hXA hLA HCV HXV hpo hi8 hz80 hz81 hz82
  obtain ⟨w1, hw1⟩ : ∃ y, w.alloc (.cells CA 26) = y := ⟨_, rfl⟩
  obtain ⟨w2, hw2⟩ : ∃ y, w1.alloc (.cells XA 28) = y := ⟨_, rfl⟩
  obtain ⟨g, hg⟩ : ∃ g, w1.heap.size = g := ⟨_, rfl⟩
  obtain ⟨bs, hbs⟩ : ∃ b, b = w2.heap.size := ⟨_, rfl⟩
  have HP2 : Hid (Pnd w w2 bs [(w.heap.size, CA, 26), (g, XA, 28)] [] [] none 0) := by
    have ho : Own w w2 [(w.heap.size, CA, 26), (g, XA, 28)] [] := by rw [← hw2, ← hg, ← hw1]; exact ((Own.start w).box CA 26).box XA 28
    have e1 : w1.heap.size = w.heap.size + 1 := by rw [← hw1]; exact size_alloc' _ _
    have e2 : w2.heap.size = w1.heap.size + 1 := by rw [← hw2]; exact size_alloc' _ _
    refine ⟨ho, World.ownsRow_nil _ _ _ _, fun t ht => by simp at ht, fun t ht => ?_, by omega, by omega⟩
    simp only [List.mem_cons, List.not_mem_nil, or_false] at ht
    rcases ht with rfl | rfl
    · show w.heap.size < bs; omega
    · show g < bs; omega
  clear hbs
  go_enter Try.func11, Try.ntmps11
  go_wp2_with fail
  clear hw1 hw2 hg
  go_loopw [5, 6, 7, 8, 9, 10, 11, 12, 13, 14, 15, 16] (fun l i _ _ _ _ _ _ _ _ _ _ wq => ∃ (k : Nat) (am : Option Addr) (cm : Nat) (ls : List Sl), l = .slice am ls.length cm ∧ i = .int .i64 (k : Int) ∧ k ≤ 2 ∧ Hid (Pnd w wq bs [(w.heap.size, CA, 26), (g, XA, 28)] ls [] am cm ∧ ls.map cnt = (List.replicate k CS).flatten ∧ ls.length = 5 * k)) (fun _ i _ _ _ _ _ _ _ _ _ _ _ => 2 - (intOf i).toNat)
  case atStart => exact ⟨0, none, 0, [], rfl, rfl, by omega, ⟨HP2.out, rfl, rfl⟩⟩
  case round =>
    clear HP2
    obtain ⟨k, am, cm, ls, rfl, rfl, hk, HR⟩ := hrel
    by_cases hlt : k < 2
    case pos =>
      have hlt' : (k : Int) < 2 := by omega
      obtain ⟨v0, hv0⟩ : ∃ y, y = wr := ⟨_, rfl⟩
      subst hv0
      have HP0 : Hid (Pnd w v0 bs [(w.heap.size, CA, 26), (g, XA, 28)] ls [] am cm) := HR.out.1
      have HN0 := hide (HP0.out.own.bx 0 w.heap.size CA 26 rfl).1
      go_wp2_with ((with_reducible refine wpList_gC w.heap.size CA HSCA.out ?hw ?hx HN0.out ?_); (case hw => rfl); (case hx => rfl))
      refine (HPA.out _).mono ?_
      rintro e v1 ⟨ga, pa, rfl, ho, hb, za1, za2⟩
      have HP1 : Hid (Pnd w v1 bs [(w.heap.size, CA, 26), (g, XA, 28)] ls [(ga, pa, A)] am cm) := HP0.out.put hb ho
      clear hb ho HP0 HN0
      have HN1 := hide (HP1.out.own.bx 1 g XA 28 rfl).1
      go_wp2_with ((with_reducible refine wpList_gE g XA HSXA.out ?hw ?hx HN1.out ?_); (case hw => rfl); (case hx => rfl))
      refine (HPB.out _).mono ?_
      rintro e v2 ⟨gb, pb, rfl, ho, hb, zb1, zb2⟩
      have HP2 : Hid (Pnd w v2 bs [(w.heap.size, CA, 26), (g, XA, 28)] ls [(ga, pa, A), (gb, pb, B)] am cm) := HP1.out.put hb ho
      clear hb ho HP1 HN1
      have HN2 : Hid (v2.rangeAt w.heap.size 0 LA.toList) := by
        have h := (HP2.out.own.bx 0 w.heap.size CA 26 rfl).1
        rw [HECA.out] at h
        rw [HELA.out]
        exact cen_loc c h
      go_wp2_with ((with_reducible refine wpList_gM w.heap.size LA HSLA.out ?hw ?hx HN2.out ?_); (case hw => rfl); (case hx => rfl))
      refine (HPK.out _).mono ?_
      rintro e v3 ⟨gk, pk, rfl, ho, hb, zk1, zk2⟩
      have HP3 : Hid (Pnd w v3 bs [(w.heap.size, CA, 26), (g, XA, 28)] ls [(ga, pa, A), (gb, pb, B), (gk, pk, K)] am cm) := HP2.out.put hb ho
      clear hb ho HP2 HN2
      have HN3 : Hid (v3.rangeAt w.heap.size 0 LA.toList) := by
        have h := (HP3.out.own.bx 0 w.heap.size CA 26 rfl).1
        rw [HECA.out] at h
        rw [HELA.out]
        exact cen_loc c h
      go_wp2_with ((with_reducible refine wpList_gM w.heap.size LA HSLA.out ?hw ?hx HN3.out ?_); (case hw => rfl); (case hx => rfl))
      refine (HPS.out _).mono ?_
      rintro e v4 ⟨gs, ps, rfl, ho, hb, zs1, zs2⟩
      have HP4 : Hid (Pnd w v4 bs [(w.heap.size, CA, 26), (g, XA, 28)] ls [(ga, pa, A), (gb, pb, B), (gk, pk, K), (gs, ps, S)] am cm) := HP3.out.put hb ho
      clear hb ho HP3 HN3
      have HN4 : Hid (v4.rangeAt w.heap.size 0 LA.toList) := by
        have h := (HP4.out.own.bx 0 w.heap.size CA 26 rfl).1
        rw [HECA.out] at h
        rw [HELA.out]
        exact cen_loc c h
      go_wp2_with ((with_reducible refine wpList_gM w.heap.size LA HSLA.out ?hw ?hx HN4.out ?_); (case hw => rfl); (case hx => rfl))
      refine (HPU.out _).mono ?_
      rintro e v5 ⟨gu, pu, rfl, ho, hb, zu1, zu2⟩
      have HP5 : Hid (Pnd w v5 bs [(w.heap.size, CA, 26), (g, XA, 28)] ls [(ga, pa, A), (gb, pb, B), (gk, pk, K), (gs, ps, S), (gu, pu, U)] am cm) := HP4.out.put hb ho
      clear hb ho HP4 HN4
      have HON : Hid (∀ u ∈ ([.slice (some ⟨ga, 0, none⟩) A.length pa, .slice (some ⟨gb, 0, none⟩) B.length pb, .slice (some ⟨gk, 0, none⟩) K.length pk, .slice (some ⟨gs, 0, none⟩) S.length ps, .slice (some ⟨gu, 0, none⟩) U.length pu] : List Value), u.oneCell' = true) := by
        intro u hu
        simp only [List.mem_cons, List.not_mem_nil, or_false] at hu
        rcases hu with rfl | rfl | rfl | rfl | rfl <;> rfl
      have HN1 : Hid (ls.length + 5 ≤ maxLen) := by show _ ≤ _; have := HR.out.2.2; unfold maxLen; omega
      have HN2 : Hid ((ls.length + 5) * 24 ≤ 140737488355328) := by show _ ≤ _; have := HR.out.2.2; omega
      have HN3 : Hid (bs ≤ v5.heap.size + 1) := by show _ ≤ _; have := HP5.out.bs.2; omega
      go_wp2_with (at_builtin; go_must (refine wpList_append_own_at _ rfl _ _ 58 rfl bs 31 i8 (.slice none 0 0) 1 24 Try.underlying58 HI8.out HZ80.out HZ81.out HZ82.out rfl (by decide) _ _ _ rfl (ownsRow_alloc HP5.out.row _) ⟨v5.heap.size, 0, none⟩ 5 5 [.slice (some ⟨ga, 0, none⟩) A.length pa, .slice (some ⟨gb, 0, none⟩) B.length pb, .slice (some ⟨gk, 0, none⟩) K.length pk, .slice (some ⟨gs, 0, none⟩) S.length ps, .slice (some ⟨gu, 0, none⟩) U.length pu] rfl rfl (cells_new _ _ _) HON.out HN1.out HN2.out (by rw [size_alloc']; exact HN3.out) ?_))
      intro v8 w8 hown8 hgrow8 _ hloc8
      obtain ⟨am', cm', hv8, hp8⟩ := HP5.out.app rfl hown8 hgrow8 (by rw [size_alloc']; exact hloc8)
      obtain ⟨ls8, hls8⟩ : ∃ l, l = ls ++ [(ga, pa, A), (gb, pb, B), (gk, pk, K), (gs, ps, S), (gu, pu, U)] := ⟨_, rfl⟩
      rw [← hls8] at hv8 hp8
      subst hv8
      have HR8 : Hid (Pnd w w8 bs [(w.heap.size, CA, 26), (g, XA, 28)] ls8 [] am' cm' ∧ ls8.map cnt = (List.replicate (k + 1) CS).flatten ∧ ls8.length = 5 * (k + 1)) := by
        refine ⟨hp8, ?_, ?_⟩
        · rw [hls8, List.map_append, HR.out.2.1, List.replicate_succ', List.flatten_append, HCE.out]
          rfl
        · rw [hls8, List.length_append, HR.out.2.2]
          show 5 * k + 5 = _
          omega
      clear hown8 hgrow8 hloc8 hp8 hls8 HP5 HR HN1 HN2 HN3 HON
      go_wp2_with fail
      go_roundw
      case rel => exact ⟨k + 1, am', cm', ls8, rfl, by go_num, by omega, HR8.out⟩
      case measure => simp [intOf]; omega
    case neg =>
      obtain rfl : k = 2 := by omega
      obtain ⟨v0, hv0⟩ : ∃ y, y = wr := ⟨_, rfl⟩
      subst hv0
      have HMC : Hid (ls.map cnt = CS ++ CS) := by have h := HR.out.2.1; show _ = _; simpa using h
      have HN10 : Hid (ls.length = 10) := HR.out.2.2
      have HP0 : Hid (Pnd w v0 bs [(w.heap.size, CA, 26), (g, XA, 28)] ls [] am cm) := HR.out.1
      clear HR
      go_wp2_with fail
      refine (HPO.out _).mono ?_
      rintro e v1 ⟨gy, py, rfl, ho, hb, zy1, zy2⟩
      have HP1 : Hid (Pnd w v1 bs [(w.heap.size, CA, 26), (g, XA, 28)] ls [(gy, py, Y)] am cm) := HP0.out.put hb ho
      obtain ⟨gR, ham, hcm1, hcm2, -⟩ := HP1.out.first (by rw [HN10.out]; omega)
      subst ham
      clear hb ho HP0
      go_wp2_with fail
      go_loopw [19] (fun i wq => ∃ k : Nat, i = .int .i64 (k : Int) ∧ k ≤ 5 ∧ Hid (Pnd w wq bs [(w.heap.size, CA, 26), (g, XA, 28)] ls [(gy, py, Y)] (some ⟨gR, 0, none⟩) cm)) (fun i _ => 5 - (intOf i).toNat)
      case atStart => exact ⟨0, rfl, Nat.zero_le _, HP1.out⟩
      case round =>
        clear HP1
        obtain ⟨j, rfl, hj, HQ⟩ := hrel
        by_cases hjl : j < 5
        case pos =>
          have hj' : (j : Int) < 5 := by omega
          have hj1 : (j : Int) < (ls.length : Int) := by have := HN10.out; omega
          have hj2 : (j : Int) + 5 < (ls.length : Int) := by have := HN10.out; omega
          obtain ⟨⟨gt, pt, lt⟩, ⟨gu, pu, lu⟩, ht, hu, he, hm⟩ := cnt_twice HMC.out HC5.out hjl
          simp only [] at he hm
          subst he
          obtain ⟨gR', hgR, -, -, hcell⟩ := HQ.out.first (by rw [HN10.out]; omega)
          simp only [Option.some.injEq, Addr.mk.injEq] at hgR
          obtain ⟨rfl, -, -⟩ := hgR
          have c1 := hcell j _ ht
          have c2 := hcell (j + 5) _ hu
          simp only [vOf] at c1 c2
          have hl12 := (HCB.out _ hm).1
          have hd : decide ((lu.length : Int) < 12) = false := by simp; omega
          have ho := HQ.out.own
          have s1 := (ho.sl j gt pt lu (by rw [List.getElem?_append_left (by have := HN10.out; omega)]; exact ht)).sb
          have s2 := (ho.sl (j + 5) gu pu lu (by rw [List.getElem?_append_left (by have := HN10.out; omega)]; exact hu)).sb
          have HSM : Hid (∀ n, Calls Try.prog 9 #[.slice (some ⟨gt, 0, none⟩) lu.length pt, .slice (some ⟨gu, 0, none⟩) lu.length pu] (wr.drewN n) fun e w' => e = .returned (.bool true) ∧ ∃ m, w' = (wr.drewN n).drewN m) := fun n => by
            have := same_any _ _ lu lu (wr.drewN n) (s1.below (below_drewN (Below.refl _ _) n)) (s2.below (below_drewN (Below.refl _ _) n))
            rw [show eqB lu lu = true by simp [eqB]] at this
            exact this
          clear ho s1 s2 hcell ht hu hm
          go_wp2_with fail
          go_quiet ((go_at_call 9; exact Calls.quiet_of (HSM.out _)))
          go_wp2_with fail
          go_roundw
          case rel => exact ⟨j + 1, by go_num, by omega, HQ.out.low (below_drewN (Below.refl _ _) _)⟩
          case measure => simp [intOf]; omega
        case neg =>
          have hj' : ¬ (j : Int) < 5 := by omega
          obtain ⟨v2, hv2⟩ : ∃ y, y = wr := ⟨_, rfl⟩
          subst hv2
          have HON : Hid (∀ u ∈ ([.slice (some ⟨gy, 0, none⟩) Y.length py] : List Value), u.oneCell' = true) := by
            intro u hu
            simp only [List.mem_cons, List.not_mem_nil, or_false] at hu
            subst hu
            rfl
          have HN1 : Hid (ls.length + 1 ≤ maxLen) := by show _ ≤ _; have := HN10.out; unfold maxLen; omega
          have HN2 : Hid ((ls.length + 1) * 24 ≤ 140737488355328) := by show _ ≤ _; have := HN10.out; omega
          have HN3 : Hid (bs ≤ v2.heap.size + 1) := by show _ ≤ _; have := HQ.out.bs.2; omega
          rw [hY] at HON
          go_wp2_with (at_builtin; go_must (refine wpList_append_own_at _ rfl _ _ 58 rfl bs 31 i8 (.slice none 0 0) 1 24 Try.underlying58 HI8.out HZ80.out HZ81.out HZ82.out rfl (by decide) _ _ _ rfl (ownsRow_alloc HQ.out.row _) ⟨v2.heap.size, 0, none⟩ 1 1 [.slice (some ⟨gy, 0, none⟩) 27 py] rfl rfl (cells_new _ _ _) HON.out HN1.out HN2.out (by rw [size_alloc']; exact HN3.out) ?_))
          intro v8 w8 hown8 hgrow8 _ hloc8
          rw [← hY] at hown8
          obtain ⟨am', cm', hv8, hp8⟩ := HQ.out.app rfl hown8 hgrow8 (by rw [size_alloc']; exact hloc8)
          obtain ⟨ls9, hls9⟩ : ∃ l, l = ls ++ [(gy, py, Y)] := ⟨_, rfl⟩
          have h11 : ls9.length = 11 := by rw [hls9, List.length_append, HN10.out]; rfl
          have hlen : ∀ t ∈ ls9, t.2.2.length ≤ 200000 := by
            intro t ht
            rw [hls9, List.mem_append] at ht
            rcases ht with ht | ht
            · have h1 : cnt t ∈ CS ++ CS := by rw [← HMC.out]; exact List.mem_map_of_mem ht
              have h2 : cnt t ∈ CS := by simpa using h1
              exact (HCB.out _ h2).2
            · rw [List.mem_singleton.1 ht]
              show Y.length ≤ _
              omega
          rw [← hls9] at hv8 hp8
          subst hv8
          obtain ⟨gA, ham, hls⟩ := hp8.lists (by omega) (by omega) hlen
          subst ham
          have HAP : Hid (Calls Try.prog 32 #[.slice (some ⟨gA, 0, none⟩) ls9.length cm'] w8 fun e w' => e = .returned (.bool true) ∧ Keep (lsV ls9) w8 w') := by
            have h := apart12_walk w8 w.heap.size gA cm' (some ⟨gA, 0, none⟩) (lsV ls9) hls (fun _ => rfl)
            rw [show (lsV ls9).length = ls9.length from List.length_map ..] at h
            exact h
          have HP9 := hide hp8
          clear hown8 hgrow8 hloc8 hp8 hls9 hls hlen h11 HQ HON HN1 HN2 HN3
          go_wp2_with fail
          refine HAP.out.mono ?_
          rintro e wE ⟨rfl, hkp⟩
          have HBE := hide (HP9.out.kept hkp)
          clear hkp
          go_wp2
          go_ret
          exact ⟨rfl, HBE.out⟩
end Go.Proofs.Ytijmmfimkibgbaa

