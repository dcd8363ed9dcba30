import Derived.Test.YtkmefeihkmbngaaDoorG25Lrc
namespace Go.Proofs.YtkmefeihkmbngaaDoor
open Go.RowKit Go.Maps
set_option maxRecDepth 20000
set_option linter.unusedVariables false

theorem dsy_self {k : Nat} (h : k < 30) : Dsy (DB k) k := ⟨h, Nat.le_refl _, fun j h1 h2 => db_up k j (by omega) (by omega) h1⟩

theorem db_le32 {k : Nat} (h : k < 30) : 1 ≤ DB k ∧ DB k ≤ 32768 ∧ DB (k + 1) ≤ 32769 ∧ DB k < DB (k + 1) := by
  have h1 := dfLe k h
  have h2 : 1 ≤ DB k := by
    rcases Nat.eq_zero_or_pos k with rfl | hp
    · decide
    · have := db_up 0 k (by omega) (by omega) hp
      omega
  have h3 := db_up k (k + 1) (by omega) (by omega) (by omega)
  refine ⟨h2, h1.2.1, ?_, h3⟩
  by_cases e : k = 29
  · subst e; decide
  · have := (dfLe (k + 1) (by omega)).2.1
    omega

theorem rowMv {w w' : World} {base : Nat} {e : TypeId} {z : Nat} {v : Value} {n : Nat} {xs : List Value} (h : w.ownsRow base e z v n xs) (hb : ∀ k, v.ownBlock = some k → w'.heap[k]? = w.heap[k]?) : w'.ownsRow base e z v n xs := by
  refine ⟨h.1, ?_⟩
  rcases h.2 with h2 | ⟨g, cap, cur, rfl, h1, h2, r⟩
  · exact .inl h2
  · exact .inr ⟨g, cap, cur, rfl, h1, (hb g rfl).trans h2, r⟩

theorem spn_nums {B q C N F : Nat} (h : C = B + q) (hc : C ≤ 32769) (hB : 1 ≤ B) (hq : B < C) (hN : C - 1 = N) (hF : F ≤ 13) : wrap64 ((B : Int) + (q : Int)) = (C : Int) ∧ wrap64 ((C : Int) - 1) = (N : Int) ∧ (N : Int) ≤ 32768 ∧ (B : Int) ≤ 32768 ∧ min F 64 = F ∧ ¬ (F : Int) < 0 := by
  unfold wrap64
  refine ⟨?_, ?_, ?_, ?_, ?_, ?_⟩ <;> omega

theorem spans_any (w : World) (T : Dtab w) : Calls Tryd.prog 33 #[.int .i64 32768] w fun e w' => ∃ v, e = .returned v ∧ w'.ownsRow w.heap.size 63 3 v 30 (sps 30) ∧ Below w.heap.size w w' := by
  have HT := hide T
  clear T
  go_enter Tryd.func33, Tryd.ntmps33
  go_wp2
  go_loopw [3, 4] (fun v t wr => ∃ k : Nat, k ≤ 30 ∧ t = .int .i64 (DB k : Int) ∧ Hid (wr.ownsRow w.heap.size 63 3 v k (sps k)) ∧ Hid (Below w.heap.size w wr)) (fun _ t _ => 32769 - (intOf t).toNat)
  case atStart => exact ⟨0, by omega, rfl, World.ownsRow_nil _ _ _ _, Below.refl _ _⟩
  case round =>
    obtain ⟨k, hk, rfl, HO, HB⟩ := hrel
    by_cases hlt : k < 30
    · have HD := hide (dsymbol_any (DB k) k wr (HT.out.low HB.out) (dsy_self hlt) (db_le32 hlt).1 (db_le32 hlt).2.1)
      obtain ⟨g1, g2, g3, g4⟩ := db_le32 hlt
      have hnx := dbNext k hlt
      have hdf := (dfLe k hlt).1
      have HSS := hide (sps_succ k)
      have HSL := hide (sps_len k)
      have HOK : Hid (spc k = [.int .i64 (DB k : Int), .int .i64 ((DB (k + 1) - 1 : Nat) : Int), .int .i64 (DF k : Int)]) := rfl
      have HON := hide (spc_one k)
      obtain ⟨F, hF⟩ : ∃ F, DF k = F := ⟨_, rfl⟩
      obtain ⟨B, hB⟩ : ∃ F, DB k = F := ⟨_, rfl⟩
      obtain ⟨C, hC⟩ : ∃ F, DB (k + 1) = F := ⟨_, rfl⟩
      obtain ⟨N, hN⟩ : ∃ N, C - 1 = N := ⟨_, rfl⟩
      obtain ⟨news, hnews⟩ : ∃ l, spc k = l := ⟨_, rfl⟩
      obtain ⟨xs, hxs⟩ : ∃ l, sps k = l := ⟨_, rfl⟩
      rw [hF, hB, hC, hN, hnews] at HOK
      rw [hnews] at HON
      rw [hF, hB, Nat.sub_self] at HD
      rw [hF] at hnx hdf
      rw [hB] at hnx g1 g2 g4 ⊢
      rw [hC] at hnx g3 g4
      rw [hxs, hnews] at HSS
      rw [hxs] at HO
      have HNX := hide hC
      obtain ⟨w1, w2, w3⟩ := wrap_pow (F := F) (by omega)
      obtain ⟨q, hq⟩ : ∃ q, 2 ^ F = q := ⟨_, rfl⟩
      rw [hq] at w1 hnx
      obtain ⟨had, hsb, hNle, hle, hmin, hF0⟩ := spn_nums hnx g3 g1 g4 hN hdf
      have HGC : Hid (B < C ∧ C ≤ 32769) := ⟨g4, g3⟩
      clear hF hB hC hN hnews hxs hq w2 w3 hnx hdf g1 g2 g3 g4
      go_wp2_with fail
      refine HD.out.mono ?_
      rintro e w5 ⟨rfl, b5⟩
      have HB5 := hide (HB.out.trans (b5.mono HB.out.size))
      have HO5 : Hid (w5.ownsRow w.heap.size 63 3 u3 k xs) := rowMv HO.out fun j hj => b5.block j (World.ownsRow.lt HO.out j hj).2
      have HO6 : Hid (∀ o, (w5.alloc o).ownsRow w.heap.size 63 3 u3 k xs) := fun o => rowMv HO5.out fun j hj => Below.heap_alloc w5 o j (World.ownsRow.lt HO5.out j hj).2
      have HSZ : Hid (∀ o : Obj, w.heap.size ≤ (w5.alloc o).heap.size) := fun o => by have := HB5.out.size; simp; omega
      have HNL : Hid (news.length = 3) := by show _ = _; rw [HOK.out]; rfl
      have HCC : Hid (∀ j u, news[j]? = some u → (w5.alloc (.cells #[.int .i64 (B : Int), .int .i64 (N : Int), .int .i64 (F : Int)] 63)).cell? ((⟨w5.heap.size, 0, none⟩ : Addr).add j) = some u) := fun j u hj => by
        rw [HOK.out] at hj
        rw [Addr.add_lit, Nat.zero_add]
        unfold World.cell?
        simp only [heap_alloc_new]
        simpa using hj
      clear b5 HD HO HB
      go_wp2_with (at_builtin; refine wpList_appQ rfl _ _ rfl w.heap.size _ k w5.heap.size xs news rfl (HO6.out _) rfl HNL.out HCC.out HON.out (by omega) (HSZ.out _) ?_)
      intro v6 w6 ho6 hgr6
      rw [← HSS.out] at ho6
      have HO7 := hide ho6
      have HB7 : Hid (Below w.heap.size w w6) := (HB5.out.alloc HB5.out.size _).grown hgr6 (HSZ.out _) (fun j hj => (World.ownsRow.lt HO5.out j hj).1)
      clear ho6 hgr6 HO5 HO6 HB5 HSZ HNL HCC
      go_wp2
      go_roundw
      case rel => exact ⟨k + 1, by omega, by rw [HNX.out], HO7, HB7⟩
      case measure => have := HGC.out; simp [intOf]; omega
    · obtain rfl : k = 30 := by omega
      have HE : Hid (DB 30 = 32769) := rfl
      rw [HE.out]
      have hle : ¬ ((32769 : Nat) : Int) ≤ 32768 := by omega
      go_wp2
      go_ret
      exact ⟨_, rfl, HO.out, HB.out⟩
end Go.Proofs.YtkmefeihkmbngaaDoor

