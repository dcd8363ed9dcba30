import Derived.Test.YtjhgjohnfkgleaaLw
namespace Go.Proofs.Ytjhgjohnfkgleaa
open Go.RowKit Go.Maps
set_option maxRecDepth 20000

theorem infoBool : (Try.prog.info? 4).map (fun i => (i.zero, i.size, i.bytes)) = some (some (.bool false), 1, 1) := by kernel_rfl

theorem madeBools (n : Nat) : (madeCells #[Value.bool false] n).toList = List.replicate n (Value.bool false) := by
  have e : ∀ k : Nat, [Value.bool false][k % 1]?.getD default = Value.bool false := fun k => by simp [Nat.mod_one]
  simp only [madeCells]
  simp [e, List.map_const']

theorem wpList_mkb {w : World} {ops : Array Oper} {rest : List Oper} {o : Oper} {a : Act} {Q : Exit → Act → World → Prop} (hg : o.guard = none) (l c : Operand) (hop : o.op = Op.makeSlice 29 l c)
    (kl kc : IntKind) (n : Nat) (hl : a.eval l = .int kl n) (hc : a.eval c = .int kc n) (b2 : n ≤ 140737488355328)
    (hK : ∀ w', w'.heap[w.heap.size]? = some (.cells (List.replicate n (Value.bool false)).toArray 4 (0, 0)) → Below w.heap.size w w' → wpList Try.prog ops Q rest (a.put o.dst (.slice (some ⟨w.heap.size, 0, none⟩) n n)) w') :
    wpList Try.prog ops Q (o :: rest) a w := by
  obtain ⟨i0, hi, hz0, hz1, hz2⟩ := info_parts infoBool
  refine wpList_plain hg fun K hK' => ?_
  have hr := run_make (P := Try.prog) w 29 4 i0 (.bool false) Try.underlying29 hi hz0 kl kc (n : Int) (n : Int) (by omega) (by omega) (by rw [hz2]; omega) (by omega)
  unfold Oper.wp
  simp [execOp, hop, hl, hc, hr, Result.andThen]
  refine hK' _ _ (hK _ ?_ ((Below.refl _ _).alloc (Nat.le_refl _) _))
  rw [heap_alloc_new, hz1, Nat.mul_one]
  have e : (madeCells (Value.bool false).cells n) = (List.replicate n (Value.bool false)).toArray := by
    apply Array.ext'
    exact madeBools n
  rw [e]

/-- Which places were seen. -/
def seenA (O : List Int) (n k : Nat) : Array Value := ((List.range n).map fun (x : Nat) => Value.bool (decide ((x : Int) ∈ O.take k))).toArray

theorem seenA_zero (O : List Int) (n : Nat) : seenA O n 0 = (List.replicate n (Value.bool false)).toArray := by
  unfold seenA
  congr 1
  simp [List.map_const']

theorem seenA_get {O : List Int} {n k x : Nat} (hx : x < n) : (seenA O n k)[x]? = some (.bool (decide ((x : Int) ∈ O.take k))) := by
  unfold seenA
  simp [hx]

theorem seenA_set {O : List Int} {n k x : Nat} (hk : k < O.length) (he : O.getD k 0 = x) : (seenA O n k).setIfInBounds x (.bool true) = seenA O n (k + 1) := by
  apply Array.ext'
  unfold seenA
  apply List.ext_getElem?
  intro i
  have ek : O[k] = (x : Int) := by rw [← he]; simp [hk]
  simp only [Array.toList_setIfInBounds, List.getElem?_set, List.length_map, List.length_range, List.take_succ_eq_append_getElem hk, ek]
  by_cases hi : i < n
  · by_cases e : x = i
    · subst e; simp [hi]
    · have e' : ¬ (i : Int) = x := by omega
      simp [hi, e, e']
  · by_cases e : x = i
    · subst e; simp [hi]
    · simp [hi, e]

theorem order_nodup (keys : List Int) : (orderOf keys).Pairwise (· ≠ ·) := (orderOf_sorted keys).imp fun h e => by subst e; exact h.asymm h

theorem not_seen {keys : List Int} {k : Nat} (hk : k < (orderOf keys).length) : (orderOf keys).getD k 0 ∉ (orderOf keys).take k := by
  intro h
  obtain ⟨i, hi, e⟩ := List.getElem_of_mem h
  have hi' : i < k := by simp at hi; omega
  have := List.pairwise_iff_getElem.1 (order_nodup keys) i k (by omega) hk hi'
  simp [hk] at e
  exact this e

theorem order_adj {keys : List Int} {k : Nat} (h0 : 0 < k) (hk : k < (orderOf keys).length) : Ah keys ((orderOf keys).getD (k - 1) 0) ((orderOf keys).getD k 0) := by
  have := List.pairwise_iff_getElem.1 (orderOf_sorted keys) (k - 1) k (by omega) hk (by omega)
  simpa [show k - 1 < (orderOf keys).length by omega, hk] using this

set_option maxHeartbeats 2000000 in
theorem heapIsSorted_walk (v : Value) (keys : List Int) (w : World) (hs : SI w v keys) (hn : keys.length ≤ 1048576) :
    Calls Try.prog 5 #[v] w fun e w' => e = .returned (.bool true) ∧ Below w.heap.size w w' := by
  have HS := hide hs
  obtain ⟨ao, ac, rfl⟩ := hs.len
  go_enter Try.func5, Try.ntmps5
  go_wp2_with fail
  refine (ints_any _ keys w hs (by omega)).mono ?_
  rintro e w1 ⟨v1, rfl, -, o1, b1⟩
  go_wp2_with fail
  refine (order_in v1 keys w1 o1.sb (by omega)).mono ?_
  rintro e w2 ⟨a2, c2, rfl, o2, b2⟩
  have HO := hide (o2.base b1.size)
  have HB := hide (b1.trans (b2.mono b1.size))
  have HSO := hide o2.sb
  have hln := orderOf_len keys
  have HLN := hide hln
  clear o1 b1 o2 b2 hs hln
  go_wp2
  go_loopw [4] (fun i wr => ∃ k q : Nat, i = .int .i64 k ∧ k ≤ keys.length ∧ wr = w2.drewN q) (fun i _ => keys.length - (intOf i).toNat)
  case atStart => exact ⟨0, 0, rfl, Nat.zero_le _, rfl⟩
  case round =>
    obtain ⟨k, q, rfl, hk, rfl⟩ := hrel
    by_cases hlt : k < keys.length
    · have hlt' : (k : Int) < (keys.length : Int) := by omega
      obtain ⟨b, o, hab, c1⟩ := HSO.out.cellAt (Below.refl _ _) (k := k) (by rw [HLN.out]; exact hlt)
      have hr1 := order_mem (getD_mem (l := orderOf keys) (i := k) (by rw [HLN.out]; exact hlt))
      obtain ⟨x, hx⟩ : ∃ x : Nat, (orderOf keys).getD k 0 = x := Int.eq_ofNat_of_zero_le hr1.1
      rw [hx] at c1 hr1
      have hx0 : ¬ (x : Int) < 0 := by omega
      have hx1 : (x : Int) < (keys.length : Int) := hr1.2
      have hx2 : ¬ (keys.length : Int) ≤ (x : Int) := by omega
      subst hab
      by_cases h0 : 0 < k
      · have hAh := order_adj (keys := keys) h0 (by rw [HLN.out]; exact hlt)
        obtain ⟨b', o', hab, c2⟩ := HSO.out.cellAt (Below.refl _ _) (k := k - 1) (by rw [HLN.out]; omega)
        simp only [Option.some.injEq, Addr.mk.injEq] at hab
        obtain ⟨rfl, rfl, -⟩ := hab
        have hr2 := order_mem (getD_mem (l := orderOf keys) (i := k - 1) (by rw [HLN.out]; omega))
        obtain ⟨y, hy⟩ : ∃ y : Nat, (orderOf keys).getD (k - 1) 0 = y := Int.eq_ofNat_of_zero_le hr2.1
        rw [hy] at c2 hr2 hAh
        rw [hx] at hAh
        have hy1 : (y : Int) < (keys.length : Int) := hr2.2
        obtain ⟨j, hj⟩ : ∃ j, k = j + 1 := ⟨k - 1, by omega⟩
        subst hj
        simp only [Nat.add_sub_cancel] at c2
        obtain ⟨b3, o3, hab3, c3⟩ := HS.out.cellAt HB.out (k := y) (by omega)
        obtain ⟨b4, o4, hab4, c4⟩ := HS.out.cellAt HB.out (k := x) (by omega)
        rw [hab3] at hab4
        simp only [Option.some.injEq, Addr.mk.injEq] at hab4
        obtain ⟨rfl, rfl, -⟩ := hab4
        subst hab3
        unfold Ah at hAh
        simp only [Int.toNat_natCast] at hAh
        obtain ⟨p, hp⟩ : ∃ p, keys.getD y 0 = p := ⟨_, rfl⟩
        obtain ⟨r, hr⟩ : ∃ r, keys.getD x 0 = r := ⟨_, rfl⟩
        rw [hp] at c3 hAh
        rw [hr] at c4 hAh
        have g1 : ¬ r < p := by omega
        have g1' : decide (r < p) = false := by simpa using g1
        clear hx hy hp hr hr1 hr2
        by_cases g2 : p = r
        · have g3 : ¬ (x : Int) ≤ (y : Int) := by omega
          have g3' : decide ((x : Int) ≤ (y : Int)) = false := by simpa using g3
          subst g2
          clear hAh
          go_wp2
          go_quiet (fail)
          go_wp2
          go_roundw
          case rel => exact ⟨j + 1 + 1, _, by go_num, by omega, rfl⟩
          case measure => simp [intOf]; omega
        · have g2' : (p == r) = false := by simpa using g2
          clear hAh
          go_wp2
          go_quiet (fail)
          go_wp2
          go_roundw
          case rel => exact ⟨j + 1 + 1, _, by go_num, by omega, rfl⟩
          case measure => simp [intOf]; omega
      · obtain rfl : k = 0 := by omega
        rw [Nat.add_zero] at c1
        clear hx hr1
        go_wp2
        go_roundw
        case rel => exact ⟨1, q, rfl, by omega, rfl⟩
        case measure => simp [intOf]; omega
    · obtain rfl : k = keys.length := by omega
      have HBD := hide (below_drewN HB.out q)
      have HSD := hide (HSO.out.drewN q)
      obtain ⟨wd, hwd⟩ : ∃ wd, w2.drewN q = wd := ⟨_, rfl⟩
      rw [hwd] at HBD HSD ⊢
      clear hwd HB HSO HO hk hlt
      obtain ⟨S, hS⟩ : ∃ S, wd.heap.size = S := ⟨_, rfl⟩
      have HSZ := hide hS
      go_wp2_with (at_make; refine wpList_mkb rfl _ _ rfl _ _ keys.length rfl rfl (by omega) ?_)
      intro w3 hg3 hb3
      (try rw [hS] at hg3); (try rw [hS] at hb3); (try rw [hS])
      have HST : Hid (w3.heap[S]? = some (.cells (seenA (orderOf keys) keys.length 0) 4 (0, 0)) ∧ Below S wd w3) := ⟨by rw [seenA_zero]; exact hg3, hb3⟩
      clear hg3 hb3 hS
      go_wp2
      go_loopw [8] (fun i wr => ∃ k : Nat, i = .int .i64 k ∧ k ≤ keys.length ∧ Hid (wr.heap[S]? = some (.cells (seenA (orderOf keys) keys.length k) 4 (0, 0)) ∧ Below S wd wr)) (fun i _ => keys.length - (intOf i).toNat)
      case atStart => exact ⟨0, rfl, Nat.zero_le _, HST.out⟩
      case round =>
        obtain ⟨k, rfl, hk, HR⟩ := hrel
        obtain ⟨hg, hb⟩ := HR.out
        by_cases hlt : k < keys.length
        · have hlt' : (k : Int) < (keys.length : Int) := by omega
          have hlo : k < (orderOf keys).length := by rw [HLN.out]; exact hlt
          obtain ⟨b, o, hab, c1⟩ := HSD.out.cellAt (by rw [HSZ.out]; exact hb) hlo
          have hr1 := order_mem (getD_mem hlo)
          have hns := not_seen hlo
          obtain ⟨x, hx⟩ : ∃ x : Nat, (orderOf keys).getD k 0 = x := Int.eq_ofNat_of_zero_le hr1.1
          have HSET := hide (seenA_set (n := keys.length) hlo hx)
          rw [hx] at c1 hr1 hns
          have hx1 : (x : Int) < (keys.length : Int) := hr1.2
          have c2 : wr.cell? ⟨S, x, none⟩ = some (.bool false) := cellOf hg (by rw [seenA_get (by omega), decide_eq_false hns])
          have f2 : wr.frozen? ⟨S, x, none⟩ = false := frozenOf hg
          have HN : Hid ((wr.setCell ⟨S, x, none⟩ (.bool true)).heap[S]? = some (.cells (seenA (orderOf keys) keys.length (k + 1)) 4 (0, 0)) ∧ Below S wd (wr.setCell ⟨S, x, none⟩ (.bool true))) :=
            ⟨by rw [heap_setCell_at _ hg, HSET.out], hb.setCell (p := ⟨S, x, none⟩) (Nat.le_refl _) _⟩
          subst hab
          clear hx hr1 hns hg hb HR
          go_wp2
          go_roundw
          case rel => exact ⟨k + 1, by go_num, by omega, HN.out⟩
          case measure => simp [intOf]; omega
        · have hlt' : ¬ (k : Int) < (keys.length : Int) := by omega
          have HFB := hide (HBD.out.trans (hb.mono (by rw [← HSZ.out]; exact HBD.out.size)))
          go_wp2
          go_ret
          exact ⟨rfl, HFB.out⟩

end Go.Proofs.Ytjhgjohnfkgleaa
