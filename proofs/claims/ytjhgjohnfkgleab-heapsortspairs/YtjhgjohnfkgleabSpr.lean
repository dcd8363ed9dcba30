import Derived.Test.YtjhgjohnfkgleabNpr
namespace Go.Proofs.Ytjhgjohnfkgleab
open Go.RowKit Go.Maps
set_option maxRecDepth 20000

theorem wpList_mkp {w : World} {ops : Array Oper} {rest : List Oper} {o : Oper} {a : Act} {Q : Exit → Act → World → Prop} (hg : o.guard = none) (l c : Operand) (hop : o.op = Op.makeSlice 48 l c)
    (kl kc : IntKind) (n : Nat) (hl : a.eval l = .int kl n) (hc : a.eval c = .int kc n) (b2 : n ≤ 5864062014805)
    (hK : ∀ w' cur, w'.heap[w.heap.size]? = some (.cells cur 52 (0, 0)) → cur.size = n * 2 → Below w.heap.size w w' → wpList Try.prog ops Q rest (a.put o.dst (.slice (some ⟨w.heap.size, 0, none⟩) n n)) w') :
    wpList Try.prog ops Q (o :: rest) a w := by
  obtain ⟨i0, hi, hz0, hz1, hz2⟩ := info_parts infoPair
  refine wpList_plain hg fun K hK' => ?_
  have hr := run_make (P := Try.prog) w 48 52 i0 _ Try.underlying48 hi hz0 kl kc (n : Int) (n : Int) (by omega) (by omega) (by rw [hz2]; omega) (by omega)
  unfold Oper.wp
  simp [execOp, hop, hl, hc, hr, Result.andThen]
  refine hK' _ _ (hK _ _ (heap_alloc_new _ _) ?_ ((Below.refl _ _).alloc (Nat.le_refl _) _))
  rw [hz1]
  simp [madeCells]

theorem eqB_self (l : List Int) : eqB l l = true := by simp [eqB]

theorem num_any (e : Int) (w : World) : Calls Try.prog 27 #[.int .i64 e] w fun r w' => r = .returned (.int .i64 e) ∧ w' = w := by
  go_enter Try.func27, Try.ntmps27
  go_wp2
  go_ret
  exact ⟨rfl, rfl⟩

set_option maxHeartbeats 2000000 in
theorem heapSortsPairs_walk (v vv : Value) (keys : List Int) (vals : List Pr) (w : World) (hs : SI w v keys) (hv : SP w vv vals) (hn : keys.length ≤ 17592186044416) (hn2 : vals.length ≤ 5864062014805) :
    Calls Try.prog 8 #[v, vv] w fun e w' => e = .returned (.bool true) ∧ Below w.heap.size w w' := by
  obtain ⟨a1, c1, rfl⟩ := hs.len
  obtain ⟨a2, c2, rfl⟩ := hv.len
  have HS := hide hs
  have HV := hide hv
  clear hs hv
  go_enter Try.func8, Try.ntmps8
  go_wp2_with (at_make; refine wpList_mkp rfl _ _ rfl _ _ vals.length rfl rfl (by omega) ?_)
  intro w1 cur hg1 hc1 hb1
  have hV1 := HV.out.below hb1
  go_wp2_with (refine wpList_copyP rfl _ _ rfl w.heap.size vals.length vals.length (.slice a2 vals.length c2) vals rfl rfl hV1 cur hg1 hc1 rfl ?_)
  intro w2 hg2 ho2 hs2 q1 q2 q3
  have hb2 : Below w.heap.size w w2 := ⟨q1.trans hb1.os, q2.trans hb1.tape, q3.trans hb1.output, by rw [hs2]; exact hb1.size, fun k hk => (ho2 k (by omega)).trans (hb1.block k hk)⟩
  have hgv : OP w2 w.heap.size (.slice (some ⟨w.heap.size, 0, none⟩) vals.length vals.length) vals :=
    ⟨flatP_length vals, .inr ⟨w.heap.size, vals.length, _, rfl, Nat.le_refl _, hg2, Nat.le_refl _, by unfold maxLen; omega, by simp [flatP_length], List.take_of_length_le (by simp [flatP_length])⟩⟩
  have HB2 := hide hb2
  have HGV := hide hgv.sp
  clear hg1 hc1 hb1 hV1 hg2 ho2 hs2 q1 q2 q3 hb2 hgv
  go_wp2_with fail
  refine (ints_any _ keys w2 (HS.out.below HB2.out) hn).mono ?_
  rintro e w3 ⟨v3, rfl, -, o3, b3⟩
  have HB3 := hide (HB2.out.trans (b3.mono HB2.out.size))
  have HG3 := hide (HGV.out.below b3)
  have HO3 := hide o3.sb
  clear o3 b3 HB2 HGV
  by_cases hne : keys.length = vals.length
  · go_wp2_with fail
    refine (sortP_any v3 _ keys vals w3 HO3.out HG3.out hne (by omega)).mono ?_
    rintro e w4 ⟨a4, c4, rfl, o4, b4⟩
    have HB4 := hide (HB3.out.trans (b4.mono HB3.out.size))
    have HG4 := hide (HG3.out.below b4)
    have HO4 := hide (HO3.out.below b4)
    have HP4 := hide o4.sp
    clear o4 b4 HB3 HG3 HO3
    go_wp2
    go_loopw [9] (fun i wr => ∃ k q : Nat, i = .int .i64 k ∧ k ≤ vals.length ∧ wr = w4.drewN q) (fun i _ => vals.length - (intOf i).toNat)
    case atStart => exact ⟨0, 0, rfl, Nat.zero_le _, rfl⟩
    case round =>
      obtain ⟨k, q, rfl, hk, rfl⟩ := hrel
      by_cases hlt : k < vals.length
      · have hlt' : (k : Int) < (vals.length : Int) := by omega
        obtain ⟨b, o, hab, d1, d2⟩ := HG4.out.nth hlt
        obtain ⟨b', o', hab', d3, d4⟩ := (HV.out.below HB4.out).nth hlt
        obtain ⟨y, hy⟩ : ∃ y, pp vals k = y := ⟨_, rfl⟩
        rw [hy] at d1 d2 d3 d4
        simp only [Option.some.injEq, Addr.mk.injEq] at hab
        obtain ⟨rfl, rfl, -⟩ := hab
        rw [Nat.zero_add] at d1 d2
        subst hab'
        clear hy
        have he1 := fun W => eqPair W y.name y.n
        have he2 := guardPair
        go_wp2
        go_quiet (fail)
        go_wp2
        go_roundw
        case rel => exact ⟨k + 1, _, by go_num, by omega, rfl⟩
        case measure => simp [intOf]; omega
      · have hlt' : ¬ (k : Int) < (vals.length : Int) := by omega
        have HBD := hide (below_drewN HB4.out q)
        have HOD := hide (HO4.out.drewN q)
        have HPD := hide (HP4.out.drewN q)
        obtain ⟨wd, hwd⟩ : ∃ wd, w4.drewN q = wd := ⟨_, rfl⟩
        rw [hwd] at HBD HOD HPD ⊢
        clear hwd HB4 HO4 HP4 HG4 hlt
        have hE := equal_any v3 _ keys keys wd HOD.out (HS.out.below HBD.out)
        rw [eqB_self] at hE
        have HNE := hide hne
        have hE2 : Calls Try.prog 21 #[v3, .slice a1 vals.length c1] wd fun e w' => e = .returned (.bool true) ∧ ∃ n, w' = wd.drewN n := by
          rw [← HNE.out]; exact hE
        clear hE
        go_wp2_with fail
        refine hE2.mono ?_
        rintro e w5 ⟨rfl, n5, hw5⟩
        have HB5 := hide (below_drewN HBD.out n5)
        have HP5 := hide (HPD.out.drewN n5)
        rw [← hw5] at HB5 HP5
        clear hw5 HBD HPD HOD hE2
        have hR := rorder_any _ keys w5 (HS.out.below HB5.out) (by omega)
        have hR2 : Calls Try.prog 20 #[.slice a1 vals.length c1] w5 fun e w' => ∃ a c, e = .returned (.slice a vals.length c) ∧ OI w' w5.heap.size (.slice a vals.length c) (orderOf keys) ∧ Below w5.heap.size w5 w' := by
          rw [← HNE.out]; exact hR
        clear hR
        go_wp2_with fail
        refine hR2.mono ?_
        rintro e w6 ⟨a6, c6, rfl, o6, b6⟩
        have HB6 := hide (HB5.out.trans (b6.mono HB5.out.size))
        have HP6 := hide (HP5.out.below b6)
        have HO6 := hide o6.sb
        clear o6 b6 HB5 HP5 hR2
        go_wp2
        go_loopw [11] (fun i wr => ∃ k q : Nat, i = .int .i64 k ∧ k ≤ vals.length ∧ wr = w6.drewN q) (fun i _ => vals.length - (intOf i).toNat)
        case atStart => exact ⟨0, 0, rfl, Nat.zero_le _, rfl⟩
        case round =>
          obtain ⟨k, q, rfl, hk, rfl⟩ := hrel
          by_cases hlt : k < vals.length
          · have hlt' : (k : Int) < (vals.length : Int) := by omega
            have hlk : k < keys.length := by have := HNE.out; omega
            have hlo : k < (orderOf keys).length := by rw [orderOf_len]; exact hlk
            obtain ⟨b, o, hab, d1⟩ := HO6.out.nth hlo
            have hr1 := order_mem (getD_mem hlo)
            have hg := srtP_get (vals := vals) hlk
            obtain ⟨x, hx⟩ : ∃ x : Nat, (orderOf keys).getD k 0 = x := Int.eq_ofNat_of_zero_le hr1.1
            rw [hx] at d1 hr1 hg
            have hx1 : (x : Int) < (vals.length : Int) := by have := hr1.2; have := HNE.out; omega
            obtain ⟨b', o', hab', d2, d3⟩ := (HV.out.below HB6.out).nth (k := x) (by omega)
            obtain ⟨b2, o2, hab2, d4, d5⟩ := HP6.out.nth (k := k) (by rw [srtP_len]; exact hlk)
            simp only [Int.toNat_natCast] at hg
            rw [hg] at d4 d5
            obtain ⟨y, hy⟩ : ∃ y, pp vals x = y := ⟨_, rfl⟩
            rw [hy] at d2 d3 d4 d5
            subst hab hab' hab2
            clear hy hg hx hr1 hlk hlo hne
            have he1 := fun W => eqPair W y.name y.n
            have he2 := guardPair
            go_wp2
            go_quiet (fail)
            go_wp2
            go_roundw
            case rel => exact ⟨k + 1, _, by go_num, by omega, rfl⟩
            case measure => simp [intOf]; omega
          · have hlt' : ¬ (k : Int) < (vals.length : Int) := by omega
            go_wp2
            go_ret
            exact ⟨rfl, below_drewN HB6.out q⟩
  · have hnb : ((keys.length : Int) != (vals.length : Int)) = true := by simp; omega
    go_wp2_with fail
    refine (sortP_no v3 _ keys vals w3 HO3.out HG3.out hne).mono ?_
    rintro e w4 ⟨rfl, hw⟩
    subst hw
    go_wp2
    go_loopw [9] (fun i wr => ∃ k q : Nat, i = .int .i64 k ∧ k ≤ vals.length ∧ wr = w4.drewN q) (fun i _ => vals.length - (intOf i).toNat)
    case atStart => exact ⟨0, 0, rfl, Nat.zero_le _, rfl⟩
    case round =>
      obtain ⟨k, q, rfl, hk, rfl⟩ := hrel
      by_cases hlt : k < vals.length
      · have hlt' : (k : Int) < (vals.length : Int) := by omega
        obtain ⟨b, o, hab, d1, d2⟩ := HG3.out.nth hlt
        obtain ⟨b', o', hab', d3, d4⟩ := (HV.out.below HB3.out).nth hlt
        obtain ⟨y, hy⟩ : ∃ y, pp vals k = y := ⟨_, rfl⟩
        rw [hy] at d1 d2 d3 d4
        simp only [Option.some.injEq, Addr.mk.injEq] at hab
        obtain ⟨rfl, rfl, -⟩ := hab
        rw [Nat.zero_add] at d1 d2
        subst hab'
        clear hy
        have he1 := fun W => eqPair W y.name y.n
        have he2 := guardPair
        go_wp2
        go_quiet (fail)
        go_wp2
        go_roundw
        case rel => exact ⟨k + 1, _, by go_num, by omega, rfl⟩
        case measure => simp [intOf]; omega
      · have hlt' : ¬ (k : Int) < (vals.length : Int) := by omega
        have HBD := hide (below_drewN HB3.out q)
        have HOD := hide (HO3.out.drewN q)
        obtain ⟨wd, hwd⟩ : ∃ wd, w4.drewN q = wd := ⟨_, rfl⟩
        rw [hwd] at HBD HOD ⊢
        clear hwd HB3 HO3 HG3 hlt
        have hE := equal_any v3 _ keys keys wd HOD.out (HS.out.below HBD.out)
        rw [eqB_self] at hE
        go_wp2_with fail
        refine hE.mono ?_
        rintro e w5 ⟨rfl, n5, hw5⟩
        have HB5 := hide (below_drewN HBD.out n5)
        rw [← hw5] at HB5
        clear hw5 HBD HOD hE
        go_wp2_with fail
        refine (num_any 40 w5).mono ?_
        rintro e w6 ⟨rfl, hw⟩
        subst hw
        go_wp2
        go_ret
        exact ⟨rfl, HB5.out⟩

end Go.Proofs.Ytjhgjohnfkgleab
