import Derived.Test.YtjhgjohnfkgleabApw
import Derived.Test.YtjhgjohnfkgleabSti
namespace Go.Proofs.Ytjhgjohnfkgleab
open Go.RowKit Go.Maps
set_option maxRecDepth 20000

theorem rep_get (n : Nat) (x : Int) {m : Nat} (h : m < n) : (List.replicate n x).getD m 0 = x := by simp [List.getD, h]

theorem rep_get2 (n : Nat) (x y : Int) : (List.replicate n x ++ List.replicate 64 y).getD n 0 = y := by simp [List.getD]

theorem SI.dr {w : World} {v : Value} {l : List Int} (h : SI w v l) (q : Nat) : SI (w.drewN q) v l := h.keep fun _ _ => rfl

theorem wpPair {W w : World} {ops : Array Oper} {rest : List Oper} {o : Oper} {a : Act} {Q : Exit → Act → World → Prop} (hgd : o.guard = none) (s x : Operand)
    (ho : o.op = .call { callee := .builtin .append, args := #[s, x], argTypes := #[22, 22] }) {xs : List ((Nat → Nat) × Thing)} (H : Herd W w xs) (i : Nat) {K : Nat → Nat} {v vm : Value} {l r : List Int} (hi : xs[i]? = some (K, tpair v l vm r)) {n : Nat} (hl : (l ++ r).length = n) (y : Int)
    (c : Nat) (hs : a.eval s = vm) (hx : a.eval x = .slice (some ⟨w.heap.size, 0, none⟩) 1 c) (hn : n ≤ 100000000000)
    (h : ∀ ad cap w' K', Herd W w' (xs.set i (K', tpair v l (.slice ad (n + 1) cap) (r ++ [y]))) → wpList Try.prog ops Q rest (a.put o.dst (.slice ad (n + 1) cap)) w') :
    wpList Try.prog ops Q (o :: rest) a (w.alloc (.cells #[.int .i64 y] 3)) := by
  subst hl
  exact wpList_pair hgd s x ho H i hi y c hs hx hn h

theorem wpRow {W w : World} {ops : Array Oper} {rest : List Oper} {o : Oper} {a : Act} {Q : Exit → Act → World → Prop} (hgd : o.guard = none) (s x : Operand)
    (ho : o.op = .call { callee := .builtin .append, args := #[s, x], argTypes := #[46, 46] }) {xs : List ((Nat → Nat) × Thing)} (H : Herd W w xs) (i : Nat) {K : Nat → Nat} {v : Value} {vs : List Value} (hi : xs[i]? = some (K, trow v vs)) {n : Nat} (hl : vs.length = n) (y : Value) (hy : y.oneCell' = true)
    (c : Nat) (hs : a.eval s = v) (hx : a.eval x = .slice (some ⟨w.heap.size, 0, none⟩) 1 c) (hn : n ≤ 1000)
    (h : ∀ ad cap w' K', Herd W w' (xs.set i (K', trow (.slice ad (n + 1) cap) (vs ++ [y]))) → wpList Try.prog ops Q rest (a.put o.dst (.slice ad (n + 1) cap)) w') :
    wpList Try.prog ops Q (o :: rest) a (w.alloc (.cells #[y] 22)) := by
  subst hl
  exact wpList_row hgd s x ho H i hi y hy c hs hx hn h

set_option maxHeartbeats 4000000 in
theorem own_walk (W w : World) (gR : Nat) (ls : List (Value × List Int)) (h : ∃ xs, Fam W w ls gR (fun _ p => tl p.1 p.2) (.slice none 0 0) [] xs) (hfew : ls.length ≤ 100) (hlen : ∀ p ∈ ls, p.2.length ≤ 10000000) :
    Calls Try.prog 25 #[.slice (some ⟨gR, 0, none⟩) ls.length ls.length] w fun e w' => e = .returned (.bool true) ∧ Below W.heap.size W w' := by
  have HSH : Hid (∀ (j : Nat) (p : Value × List Int), ls[j]? = some p → ∃ a c, p.1 = .slice a p.2.length c) := fun j p hp => by
    obtain ⟨xs, F⟩ := h
    obtain ⟨K, h0⟩ := F.each j p hp
    have hh : (tl p.1 p.2).P w K := F.herd.rep j _ h0
    exact hh.1.shape
  have HLN : Hid (∀ (j : Nat) (p : Value × List Int), ls[j]? = some p → p.2.length ≤ 10000000) := fun j p hp => hlen p (List.mem_of_getElem? hp)
  have HST : Hid (∃ xs, Fam W w ls gR (stA 0) (.slice none 0 0) [] xs) := by
    obtain ⟨xs, F⟩ := h
    exact ⟨xs, F.congr fun j p _ => by simp [stA]⟩
  clear h hlen
  go_enter Try.func25, Try.ntmps25
  go_wp2
  go_loopw [3] (fun i wr => ∃ k : Nat, i = .int .i64 k ∧ k ≤ ls.length ∧ Hid (∃ xs, Fam W wr ls gR (stA k) (.slice none 0 0) [] xs)) (fun i _ => ls.length - (intOf i).toNat)
  case atStart => exact ⟨0, rfl, Nat.zero_le _, HST.out⟩
  case round =>
    clear HST
    obtain ⟨k, rfl, hk, HF⟩ := hrel
    by_cases hlt : k < ls.length
    case pos =>
      have hlt' : (k : Int) < (ls.length : Int) := by omega
      obtain ⟨p, hp⟩ : ∃ p, ls[k]? = some p := ⟨ls[k], by simp [hlt]⟩
      obtain ⟨a, c, hv⟩ := HSH.out k p hp
      have hpl := HLN.out k p hp
      obtain ⟨pv, pl⟩ := p
      simp only [] at hv hpl
      subst hv
      have HP := hide hp
      clear hp
      go_wp2
      go_loopw [4] (fun i wq => ∃ m : Nat, i = .int .i64 m ∧ m ≤ pl.length ∧ Hid (∃ xs, Fam W wq ls gR (stA' k m) (.slice none 0 0) [] xs)) (fun i _ => pl.length - (intOf i).toNat)
      case atStart =>
        obtain ⟨xs, F⟩ := HF.out
        exact ⟨0, rfl, Nat.zero_le _, xs, F.congr fun j p _ => stA_start k j p⟩
      case round =>
        obtain ⟨m, rfl, hm, HG⟩ := hrel
        obtain ⟨xs, F⟩ := HG.out
        have hc := F.cell HP.out
        simp only [] at hc
        by_cases hml : m < pl.length
        · have hml' : (m : Int) < (pl.length : Int) := by omega
          obtain ⟨K0, h0⟩ := F.each k _ HP.out
          have e0 : stA' k m k (.slice a pl.length c, pl) = tl (.slice a pl.length c) (List.replicate m (-10 - (k : Int)) ++ pl.drop m) := by simp [stA']
          rw [e0] at h0
          obtain ⟨g, rfl, ⟨u, hu⟩, hf, _, H'⟩ := F.herd.putL k h0 (k := m) (by simp; omega) (-10 - (k : Int))
          rw [set_rep _ _ _ hml] at H'
          have HN : Hid (∃ xs, Fam W (wr.setCell ⟨g, m, none⟩ (.int .i64 (-10 - (k : Int)))) ls gR (stA' k (m + 1)) (.slice none 0 0) [] xs) :=
            F.upd HP.out (stA' k (m + 1)) (K' := K0) (by simpa [stA'] using H') (fun j q _ hj => stA_other hj)
          clear HF HG F h0 e0 H'
          go_wp2
          go_roundw
          case rel => exact ⟨m + 1, by go_num, by omega, HN.out⟩
          case measure => simp [intOf]; omega
        · have hml' : ¬ (m : Int) < (pl.length : Int) := by omega
          have em : m = pl.length := by omega
          have HN : Hid (∃ xs, Fam W wr ls gR (stA (k + 1)) (.slice none 0 0) [] xs) := ⟨xs, F.congr fun j q hq => stA_end k j q m (fun e => by
            subst e
            have := HP.out.symm.trans hq
            simp only [Option.some.injEq] at this
            rw [← this]; exact em)⟩
          clear HF HG F em
          go_wp2
          go_roundw
          case rel => exact ⟨k + 1, by go_num, by omega, HN.out⟩
          case measure => simp [intOf]; omega
    case neg =>
      have hlt' : ¬ (k : Int) < (ls.length : Int) := by omega
      have HB : Hid (∃ xs vs, vs.length = 0 ∧ Fam W wr ls gR (stB 0 vs) (.slice none 0 0) vs xs) := by
        obtain ⟨xs, F⟩ := HF.out
        obtain rfl : k = ls.length := by omega
        exact ⟨xs, [], rfl, F.congr fun j p hp => stB_zero ls.length j p (get_lt hp)⟩
      clear HF
      go_wp2
      go_loopw [5, 6] (fun lo i wr => ∃ (k : Nat) (al : Option Addr) (cl : Nat), lo = .slice al k cl ∧ i = .int .i64 k ∧ k ≤ ls.length ∧ Hid (∃ xs vs, vs.length = k ∧ Fam W wr ls gR (stB k vs) (.slice al k cl) vs xs)) (fun _ i _ => ls.length - (intOf i).toNat)
      case atStart => exact ⟨0, none, 0, rfl, rfl, Nat.zero_le _, HB.out⟩
      case round =>
        clear HB hk hlt hlt'
        obtain ⟨k, al, cl, rfl, rfl, hk, HF⟩ := hrel
        by_cases hlt : k < ls.length
        case pos =>
          have hlt' : (k : Int) < (ls.length : Int) := by omega
          obtain ⟨p, hp⟩ : ∃ p, ls[k]? = some p := ⟨ls[k], by simp [hlt]⟩
          obtain ⟨a, c, hv⟩ := HSH.out k p hp
          have hpl := HLN.out k p hp
          obtain ⟨pv, pl⟩ := p
          simp only [] at hv hpl
          subst hv
          obtain ⟨xs, vs, hvl, F⟩ := HF.out
          have hc := F.cell hp
          simp only [] at hc
          have HI : Hid (∃ xs, Fam W wr ls gR (stB' k 0 (.slice a pl.length c) vs) (.slice al k cl) vs xs) := by
            obtain ⟨K0, h0⟩ := F.each k _ hp
            have e0 : stB k vs k (.slice a pl.length c, pl) = tl (.slice a pl.length c) (mk10 (.slice a pl.length c, pl) k) := by simp [stB]
            rw [e0] at h0
            exact F.upd hp (stB' k 0 (.slice a pl.length c) vs) (K' := K0) (by simpa [stB'] using F.herd.pair k h0) (fun j q _ hj => stB_start k j q hj _ _ _)
          have HP := hide hp
          have HVL := hide hvl
          clear hp hvl F HF
          go_wp2
          go_loopw [7, 8] (fun mo i wq => ∃ (i' : Nat) (am : Option Addr) (cm : Nat), mo = .slice am (pl.length + i') cm ∧ i = .int .i64 i' ∧ i' ≤ 64 ∧ Hid (∃ xs, Fam W wq ls gR (stB' k i' (.slice am (pl.length + i') cm) vs) (.slice al k cl) vs xs)) (fun _ i _ => 64 - (intOf i).toNat)
          case atStart => exact ⟨0, a, c, rfl, rfl, by omega, HI.out⟩
          case round =>
            clear HI hc
            obtain ⟨i', am, cm, rfl, rfl, hi', HG⟩ := hrel
            obtain ⟨xs2, F2⟩ := HG.out
            have HF2 := hide F2
            by_cases hlt9 : i' < 64
            · have hlt9' : (i' : Int) < 64 := by omega
              obtain ⟨K0, h0⟩ := F2.each k _ HP.out
              have e0 : stB' k i' (.slice am (pl.length + i') cm) vs k (.slice a pl.length c, pl) = tpair (.slice a pl.length c) (mk10 (.slice a pl.length c, pl) k) (.slice am (pl.length + i') cm) (List.replicate i' (-50 - (k : Int))) := by simp [stB']
              rw [e0] at h0
              have H0 := hide h0
              have hln : (mk10 (.slice a pl.length c, pl) k ++ List.replicate i' (-50 - (k : Int))).length = pl.length + i' := by simp [mk10]
              have HL1 := hide hln
              clear h0 e0 hln F2 HG
              go_wp2_with (at_builtin; refine wpPair rfl _ _ rfl HF2.out.herd k H0.out HL1.out (-50 - (k : Int)) _ rfl rfl (by omega) ?_)
              intro ad cap w6 K6 H6
              have HN : Hid (∃ xs, Fam W w6 ls gR (stB' k (i' + 1) (.slice ad (pl.length + (i' + 1)) cap) vs) (.slice al k cl) vs xs) :=
                HF2.out.upd HP.out (stB' k (i' + 1) (.slice ad (pl.length + (i' + 1)) cap) vs) (K' := K6) (by
                  have e : stB' k (i' + 1) (.slice ad (pl.length + (i' + 1)) cap) vs k (.slice a pl.length c, pl) = tpair (.slice a pl.length c) (mk10 (.slice a pl.length c, pl) k) (.slice ad (pl.length + i' + 1) cap) (List.replicate i' (-50 - (k : Int)) ++ [-50 - (k : Int)]) := by simp [stB', List.replicate_succ', Nat.add_assoc]
                  rw [e]; exact H6) (fun j q _ hj => by unfold stB'; rw [if_neg hj, if_neg hj])
              clear H6 HF2 H0 HL1
              go_wp2
              go_roundw
              case rel => exact ⟨i' + 1, ad, cap, rfl, by go_num, by omega, HN.out⟩
              case measure => simp [intOf]; omega
            · obtain rfl : i' = 64 := by omega
              obtain ⟨KL, hL⟩ := F2.long
              have HL := hide hL
              clear hL F2 HG hlt9
              go_wp2_with (at_builtin; refine wpRow rfl _ _ rfl HF2.out.herd (ls.length + 1) HL.out HVL.out (.slice am (pl.length + 64) cm) rfl _ rfl rfl (by omega) ?_)
              intro ad cap w6 K6 H6
              have HN : Hid (∃ xs vs', vs'.length = k + 1 ∧ Fam W w6 ls gR (stB (k + 1) vs') (.slice ad (k + 1) cap) vs' xs) := by
                obtain ⟨xs6, F6⟩ := HF2.out.updL H6
                exact ⟨xs6, vs ++ [.slice am (pl.length + 64) cm], by rw [List.length_append, HVL.out]; rfl, F6.congr fun j q _ => stB_end HVL.out rfl⟩
              clear H6 HF2 HL
              go_wp2
              go_roundw
              case rel => exact ⟨k + 1, ad, cap, rfl, by go_num, by omega, HN.out⟩
              case measure => simp [intOf]; omega
        case neg =>
          have hlt' : ¬ (k : Int) < (ls.length : Int) := by omega
          obtain rfl : k = ls.length := by omega
          obtain ⟨xs, vs, hvl, F⟩ := HF.out
          have HC1 : Hid (∀ (j : Nat) (p : Value × List Int), ls[j]? = some p → wr.cell? ⟨gR, j, none⟩ = some p.1) := fun j p hp => F.cell hp
          have HC2 : Hid (∀ (j : Nat) (p : Value × List Int), ls[j]? = some p → SI wr p.1 (mk10 p j) ∧ ∃ gl av cv, al = some ⟨gl, 0, none⟩ ∧ wr.cell? ⟨gl, j, none⟩ = some (.slice av (p.2.length + 64) cv) ∧ SI wr (.slice av (p.2.length + 64) cv) (mk10 p j ++ List.replicate 64 (-50 - (j : Int)))) := fun j p hp => by
            have hj := get_lt hp
            obtain ⟨K0, h0⟩ := F.each j p hp
            have e0 : stB ls.length vs j p = tpair p.1 (mk10 p j) (vs.getD j undef) (List.replicate 64 (-50 - (j : Int))) := by unfold stB; rw [if_pos hj]
            rw [e0] at h0
            have hh : (tpair p.1 (mk10 p j) (vs.getD j undef) (List.replicate 64 (-50 - (j : Int)))).P wr K0 := F.herd.rep j _ h0
            obtain ⟨KL, hL⟩ := F.long
            have hr : (trow (.slice al ls.length cl) vs).P wr KL := F.herd.rep _ _ hL
            refine ⟨hh.1, ?_⟩
            obtain ⟨av, cv, hav⟩ := hh.2.1.shape
            have hln : (mk10 p j ++ List.replicate 64 (-50 - (j : Int))).length = p.2.length + 64 := by simp [mk10]
            rw [hln] at hav
            have hsi := hh.2.1.sb
            rw [hav] at hsi
            rcases hr.1.2 with ⟨hv, h00⟩ | ⟨gl, cap, cur, hv, _⟩
            · omega
            · simp only [Value.slice.injEq] at hv
              obtain ⟨rfl, -, -⟩ := hv
              refine ⟨gl, av, cv, rfl, ?_, hsi⟩
              have := @World.ownsRow.cells _ _ _ _ _ _ _ hr.1 (g := gl) rfl j (vs.getD j undef) (by simp [List.getD, show j < vs.length by omega])
              rw [Addr.add_lit, Nat.zero_add, hav] at this
              exact this
          have HBL := hide F.herd.bel
          clear F HF hvl hk hlt
          obtain ⟨V, hV⟩ : ∃ V, V = wr := ⟨_, rfl⟩
          subst hV
          go_wp2
          go_loopw [9] (fun i wq => ∃ k q : Nat, i = .int .i64 k ∧ k ≤ ls.length ∧ wq = V.drewN q) (fun i _ => ls.length - (intOf i).toNat)
          case atStart => exact ⟨0, 0, rfl, Nat.zero_le _, rfl⟩
          case round =>
            clear hlt'
            obtain ⟨k, q, rfl, hk, hW9⟩ := hrel
            by_cases hlt : k < ls.length
            · have hlt' : (k : Int) < (ls.length : Int) := by omega
              obtain ⟨p, hp⟩ : ∃ p, ls[k]? = some p := ⟨ls[k], by simp [hlt]⟩
              obtain ⟨a, c, hv⟩ := HSH.out k p hp
              have hpl := HLN.out k p hp
              have hc := HC1.out k p hp
              obtain ⟨s1, gl, av, cv, e1, hd, s2⟩ := HC2.out k p hp
              obtain ⟨pv, pl⟩ := p
              simp only [] at hv hpl hc hd s1 s2
              subst hv
              have hc : wr.cell? ⟨gR, k, none⟩ = some (.slice a pl.length c) := by rw [hW9]; exact hc
              have hd : wr.cell? ⟨gl, k, none⟩ = some (.slice av (pl.length + 64) cv) := by rw [hW9]; exact hd
              have s1 : SI wr (.slice a pl.length c) (mk10 (.slice a pl.length c, pl) k) := by rw [hW9]; exact s1.dr q
              have s2 : SI wr (.slice av (pl.length + 64) cv) (mk10 (.slice a pl.length c, pl) k ++ List.replicate 64 (-50 - (k : Int))) := by rw [hW9]; exact s2.dr q
              obtain ⟨b2, o2, rfl, hn2⟩ := s2.nth (k := pl.length) (by simp [mk10])
              unfold mk10 at hn2
              simp only [] at hn2
              rw [rep_get2] at hn2
              have S1 := hide s1
              have HW9 := hide hW9
              subst e1
              clear hp s1 s2 hW9
              obtain ⟨W9, hW⟩ : ∃ W9, W9 = wr := ⟨_, rfl⟩
              subst hW
              go_wp2
              go_loopw [10] (fun i wq => ∃ m : Nat, i = .int .i64 m ∧ m ≤ pl.length ∧ wq = W9) (fun i _ => pl.length - (intOf i).toNat)
              case atStart => exact ⟨0, rfl, Nat.zero_le _, rfl⟩
              case round =>
                obtain ⟨m, rfl, hm, hw⟩ := hrel
                subst hw
                by_cases hml : m < pl.length
                · have hml' : (m : Int) < (pl.length : Int) := by omega
                  obtain ⟨b1, o1, rfl, hn1⟩ := S1.out.nth (k := m) (by simpa [mk10] using hml)
                  unfold mk10 at hn1
                  simp only [] at hn1
                  rw [rep_get _ _ hml] at hn1
                  go_wp2
                  go_roundw
                  case rel => exact ⟨m + 1, by go_num, by omega, trivial⟩
                  case measure => simp [intOf]; omega
                · have hml' : ¬ (m : Int) < (pl.length : Int) := by omega
                  go_wp2
                  go_quiet (fail)
                  go_wp2
                  go_roundw
                  case rel => exact ⟨k + 1, _, by go_num, by omega, by rw [HW9.out]; exact World.drewN_drewN _ _ _⟩
                  case measure => simp [intOf]; omega
            · have hlt' : ¬ (k : Int) < (ls.length : Int) := by omega
              subst hW9
              go_wp2
              go_ret
              exact ⟨rfl, below_drewN HBL.out q⟩

end Go.Proofs.Ytjhgjohnfkgleab
