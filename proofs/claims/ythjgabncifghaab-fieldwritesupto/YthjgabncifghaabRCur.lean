import Derived.Test.YthjgabncifghaabNum
namespace Go.Proofs.Ythjgabncifghaab
open Go.RowKit
set_option maxRecDepth 20000
variable {X : Nat → Prop}

theorem rerr_any {w : World} {g : Nat} {st : CSt} (h : Cu X 76 w g st) :
    Calls Try.prog 41 #[.pointer (some ⟨g, 0, none⟩)] w fun e w' => e = .returned (.int .i64 st.e) ∧ w' = w := by
  obtain ⟨v, h1, h2, _⟩ := h
  obtain ⟨c0, c1, c2⟩ := h1.at
  clear h1 h2 c0 c1
  go_enter Try.func41, Try.ntmps41
  go_wp2
  go_ret
  exact ⟨rfl, rfl⟩

theorem rat_any {w : World} {g : Nat} {st : CSt} (h : Cu X 76 w g st) :
    Calls Try.prog 40 #[.pointer (some ⟨g, 0, none⟩)] w fun e w' => e = .returned (.int .i64 st.p) ∧ w' = w := by
  obtain ⟨v, h1, h2, _⟩ := h
  obtain ⟨c0, c1, c2⟩ := h1.at
  clear h1 h2 c0 c2
  go_enter Try.func40, Try.ntmps40
  go_wp2
  go_ret
  exact ⟨rfl, rfl⟩

theorem rleft_any {w : World} {g : Nat} {st : CSt} (h : Cu X 76 w g st) :
    Calls Try.prog 45 #[.pointer (some ⟨g, 0, none⟩)] w fun e w' => e = .returned (.int .i64 ((st.d.length : Int) - st.p)) ∧ ∃ n, w' = w.drewN n := by
  obtain ⟨v, h1, h2, h3, h4, _⟩ := h
  obtain ⟨a, c, rfl⟩ := h2.shape
  obtain ⟨c0, c1, c2⟩ := h1.at
  clear h1 h2 c2
  go_enter Try.func45, Try.ntmps45
  go_wp2
  go_quiet (fail)
  go_wp2
  go_ret
  exact ⟨rfl, _, rfl⟩

theorem rskip_any {w : World} {g B : Nat} {st : CSt} (h : Cu X 76 w g st) (n : Int) (hB : B ≤ g) :
    Calls Try.prog 63 #[.pointer (some ⟨g, 0, none⟩), .int .i64 n] w fun e w' => e = .returned (.tuple #[]) ∧ Cu X 76 w' g (nextSt st n) ∧ Tch B g w w' := by
  have HC := hide h
  obtain ⟨v, h1, h2, h3, h4, h5, h6⟩ := h
  have hfz := h1.free
  obtain ⟨c0, c1, c2⟩ := h1.at
  obtain ⟨a, c, rfl⟩ := h2.shape
  clear h1 h2 h5 h6
  by_cases he : st.e = 0
  case neg =>
    have HS : Hid (nextSt st n = st) := by show _ = _; unfold nextSt; rw [if_pos he]
    have he' : (st.e != 0) = true := by simpa using he
    clear c0 c1
    go_enter Try.func63, Try.ntmps63
    go_wp2
    (try simp only [Exit.inBlock, Exit.then]); refine bodyPost_ret (results_none rfl _ _ _) rfl ?_
    rw [HS.out]
    exact ⟨rfl, HC.out, Tch.refl _ _ _⟩
  case pos =>
  rw [he] at c2
  by_cases hn : n < 0
  case pos =>
    have HS : Hid (nextSt st n = { st with e := 1 }) := by show _ = _; unfold nextSt; rw [if_neg (by simp [he]), if_pos hn]
    have HF : Hid (Cu X 76 (w.setCell ⟨g, 2, none⟩ (.int .i64 1)) g { st with e := 1 }) := HC.out.upd st.p 1 h3 (fun v hv => hv.set.2.2 _) (setCell_others w g 2 _)
    clear he
    go_enter Try.func63, Try.ntmps63
    go_wp2
    (try simp only [Exit.inBlock, Exit.then]); refine bodyPost_ret (results_none rfl _ _ _) rfl ?_
    rw [HS.out]
    exact ⟨rfl, HF.out, tch_set hB _⟩
  case neg =>
  by_cases hl : (st.d.length : Int) - st.p < n
  case pos =>
    have HS : Hid (nextSt st n = { st with e := 20 }) := by show _ = _; unfold nextSt; rw [if_neg (by simp [he]), if_neg hn, if_pos hl]
    have HF : Hid (∀ k, Cu X 76 ((w.drewN k).setCell ⟨g, 2, none⟩ (.int .i64 20)) g { st with e := 20 }) := fun k => HC.out.upd st.p 20 h3 (fun v hv => hv.set.2.2 _) (setCell_others w g 2 _)
    clear he
    go_enter Try.func63, Try.ntmps63
    go_wp2
    go_quiet (fail)
    go_wp2
    (try simp only [Exit.inBlock, Exit.then]); refine bodyPost_ret (results_none rfl _ _ _) rfl ?_
    rw [HS.out]
    exact ⟨rfl, HF.out _, ((Tch.refl _ _ _).drewN _).trans (tch_set hB _)⟩
  case neg =>
    obtain ⟨m, rfl⟩ : ∃ m : Nat, n = m := ⟨n.toNat, by omega⟩
    have HS : Hid (nextSt st m = { st with p := st.p + m }) := nextSt_ok ⟨he, by omega, by omega⟩
    have hsum : st.p + m ≤ st.d.length := by omega
    have HF : Hid (∀ (k : Nat) (x : Int), x = (st.p : Int) + m → Cu X 76 ((w.drewN k).setCell ⟨g, 1, none⟩ (.int .i64 x)) g (nextSt st m) ∧ Tch B g w ((w.drewN k).setCell ⟨g, 1, none⟩ (.int .i64 x))) := by
      intro k x hx
      obtain rfl : x = ((st.p + m : Nat) : Int) := by omega
      rw [HS.out]
      exact ⟨HC.out.upd (w' := (w.drewN k).setCell ⟨g, 1, none⟩ (.int .i64 ((st.p + m : Nat) : Int))) (st.p + m) st.e hsum (fun v hv => hv.set.2.1 _) (setCell_others w g 1 _), ((Tch.refl _ _ _).drewN k).trans (tch_set hB _)⟩
    clear he
    go_enter Try.func63, Try.ntmps63
    go_wp2
    go_quiet (fail)
    go_wp2
    (try simp only [Exit.inBlock, Exit.then]); refine bodyPost_end (results_none rfl _ _ _) rfl ?_
    exact ⟨rfl, HF.out _ _ rfl⟩

theorem rseek_any {w : World} {g B : Nat} {st : CSt} (h : Cu X 76 w g st) (n : Int) (hB : B ≤ g) :
    Calls Try.prog 64 #[.pointer (some ⟨g, 0, none⟩), .int .i64 n] w fun e w' => e = .returned (.tuple #[]) ∧ Cu X 76 w' g (seekSt st n) ∧ Tch B g w w' := by
  have HC := hide h
  obtain ⟨v, h1, h2, h3, h4, h5, h6⟩ := h
  have hfz := h1.free
  obtain ⟨c0, c1, c2⟩ := h1.at
  obtain ⟨a, c, rfl⟩ := h2.shape
  clear h1 h2 h5 h6
  by_cases he : st.e = 0
  case neg =>
    have HS : Hid (seekSt st n = st) := by show _ = _; unfold seekSt; rw [if_pos he]
    have he' : (st.e != 0) = true := by simpa using he
    clear c0 c1
    go_enter Try.func64, Try.ntmps64
    go_wp2
    (try simp only [Exit.inBlock, Exit.then]); refine bodyPost_ret (results_none rfl _ _ _) rfl ?_
    rw [HS.out]
    exact ⟨rfl, HC.out, Tch.refl _ _ _⟩
  case pos =>
  rw [he] at c2
  by_cases hn : n < 0
  case pos =>
    have HS : Hid (seekSt st n = { st with e := 1 }) := by show _ = _; unfold seekSt; rw [if_neg (by simp [he]), if_pos hn]
    have HF : Hid (Cu X 76 (w.setCell ⟨g, 2, none⟩ (.int .i64 1)) g { st with e := 1 }) := HC.out.upd st.p 1 h3 (fun v hv => hv.set.2.2 _) (setCell_others w g 2 _)
    clear he
    go_enter Try.func64, Try.ntmps64
    go_wp2
    (try simp only [Exit.inBlock, Exit.then]); refine bodyPost_ret (results_none rfl _ _ _) rfl ?_
    rw [HS.out]
    exact ⟨rfl, HF.out, tch_set hB _⟩
  case neg =>
  by_cases hl : (st.d.length : Int) < n
  case pos =>
    have HS : Hid (seekSt st n = { st with e := 1 }) := by show _ = _; unfold seekSt; rw [if_neg (by simp [he]), if_neg hn, if_pos hl]
    have HF : Hid (Cu X 76 (w.setCell ⟨g, 2, none⟩ (.int .i64 1)) g { st with e := 1 }) := HC.out.upd st.p 1 h3 (fun v hv => hv.set.2.2 _) (setCell_others w g 2 _)
    clear he
    go_enter Try.func64, Try.ntmps64
    go_wp2
    (try simp only [Exit.inBlock, Exit.then]); refine bodyPost_ret (results_none rfl _ _ _) rfl ?_
    rw [HS.out]
    exact ⟨rfl, HF.out, tch_set hB _⟩
  case neg =>
    obtain ⟨m, rfl⟩ : ∃ m : Nat, n = m := ⟨n.toNat, by omega⟩
    have HS : Hid (seekSt st m = { st with p := m }) := by show _ = _; unfold seekSt; rw [if_neg (by simp [he]), if_neg hn, if_neg hl]; rfl
    have HF : Hid (Cu X 76 (w.setCell ⟨g, 1, none⟩ (.int .i64 (m : Int))) g { st with p := m }) := HC.out.upd m st.e (by omega) (fun v hv => hv.set.2.1 _) (setCell_others w g 1 _)
    clear he
    go_enter Try.func64, Try.ntmps64
    go_wp2
    (try simp only [Exit.inBlock, Exit.then]); refine bodyPost_end (results_none rfl _ _ _) rfl ?_
    rw [HS.out]
    exact ⟨rfl, HF.out, tch_set hB _⟩

theorem nextSt_err {st : CSt} {n : Int} (h : (nextSt st n).e = 0) (h0 : st.e = 0) : okN st n := by
  unfold nextSt at h
  rw [if_neg (by simp [h0])] at h
  by_cases h1 : n < 0
  · rw [if_pos h1] at h; simp at h
  · rw [if_neg h1] at h
    by_cases h2 : (st.d.length : Int) - st.p < n
    · rw [if_pos h2] at h; simp at h
    · exact ⟨h0, by omega, by omega⟩

theorem nextSt_e {st : CSt} {n : Int} (h : ¬ okN st n) : (nextSt st n).e ≠ 0 := by
  unfold nextSt
  by_cases h0 : st.e = 0
  · rw [if_neg (by simp [h0])]
    by_cases h1 : n < 0
    · rw [if_pos h1]; simp
    · rw [if_neg h1]
      by_cases h2 : (st.d.length : Int) - st.p < n
      · rw [if_pos h2]; simp
      · exact absurd ⟨h0, by omega, by omega⟩ h
  · rw [if_pos h0]; exact h0

theorem rtext_any {w : World} {g B : Nat} {st : CSt} (h : Cu X 76 w g st) (n : Int) (hB : B ≤ g) :
    Calls Try.prog 62 #[.pointer (some ⟨g, 0, none⟩), .int .i64 n] w fun e w' => e = .returned (.string (strOfNums (nextL st n))) ∧ Cu X 76 w' g (nextSt st n) ∧ Tch B g w w' := by
  have HC := hide h
  obtain ⟨v, h1, h2, h3, h4, h5, h6⟩ := h
  obtain ⟨c0, c1, c2⟩ := h1.at
  clear h1 h2 h5 h6 c0 c2
  by_cases hok : okN st n
  case neg =>
    have HL : Hid (nextL st n = []) := nextL_no hok
    have HE := hide (nextSt_e hok)
    clear hok
    go_enter Try.func62, Try.ntmps62
    go_wp2_with fail
    refine (rskip_any HC.out n hB).mono ?_
    rintro e w1 ⟨rfl, hcu, htc⟩
    have HF := hide (And.intro hcu htc)
    obtain ⟨v', k1, _⟩ := hcu
    obtain ⟨_, _, d2⟩ := k1.at
    have he' : ((nextSt st n).e != 0) = true := by simpa using HE.out
    clear k1 htc c1
    go_wp2
    go_ret
    rw [HL.out]
    exact ⟨rfl, HF.out⟩
  case pos =>
    obtain ⟨m, rfl⟩ : ∃ m : Nat, n = m := ⟨n.toNat, by have := hok.2.1; omega⟩
    have HK := hide hok
    have hsum : st.p + m ≤ st.d.length := by have := hok.2.2; omega
    have HS := hide (nextSt_ok hok)
    have HL : Hid ((nextL st m).length = m) := (nextL_ok HK.out).2
    have HG : Hid (∀ i, i < m → (nextL st m).getD i 0 = st.d.getD (st.p + i) 0) := fun i hi => nextL_get HK.out hi
    clear hok
    go_enter Try.func62, Try.ntmps62
    go_wp2_with fail
    refine (rskip_any HC.out m hB).mono ?_
    rintro e w1 ⟨rfl, hcu, htc⟩
    have HF := hide (And.intro hcu htc)
    rw [HS.out] at hcu
    obtain ⟨v', k1, k2, _⟩ := hcu
    obtain ⟨d0, d1, d2⟩ := k1.at
    rw [HK.out.1] at d2
    simp only [] at d1
    clear k1 htc c1
    rcases k2 with ⟨rfl, hd⟩ | ⟨b, cap, rfl, hc1, hc2, hc3⟩
    · have hd' : st.d = [] := hd
      obtain rfl : m = 0 := by rw [hd'] at hsum; simp at hsum; omega
      have hp : st.p = 0 := by rw [hd'] at hsum; simp at hsum; omega
      have HZ : Hid (nextL st (0 : Nat) = []) := List.eq_nil_of_length_eq_zero HL.out
      rw [hp] at d1
      rw [hp]
      have hcv := fun k => run_convert_bytes_nil (P := Try.prog) (w1.drewN k) 28 5 Try.underlying28 Try.underlying5 0 0 9 Try.underlying9
      have hcv' := run_convert_bytes_nil (P := Try.prog) w1 28 5 Try.underlying28 Try.underlying5 0 0 9 Try.underlying9
      clear hd
      go_wp2
      go_quiet (fail)
      go_wp2
      go_ret
      rw [HZ.out]
      exact ⟨rfl, HF.out.1, HF.out.2.drewN _⟩
    · have HR : ∀ (c o q : Nat), (m ≠ 0 → o = st.p) → (convert 28 9 (.slice (some ⟨b, o, none⟩) m c)).run Try.prog (w1.drewN q) = .ok (.string (strOfNums (nextL st m))) (w1.drewN q) := by
        intro c o q ho
        refine rs_convert ⟨some ⟨b, o, none⟩, c, by rw [HL.out], by rw [HL.out]; unfold maxLen; omega, fun hne => ⟨b, o, rfl, fun i hi => ?_⟩⟩
        rw [HL.out] at hi
        have h1 := hc3 (st.p + i) (show st.p + i < st.d.length by omega)
        have h2 : (w1.drewN q).cell? ⟨b, st.p + i, none⟩ = w1.cell? ⟨b, st.p + i, none⟩ := rfl
        rw [ho (by omega), h2, h1, HG.out i hi]
      have hc1' : st.d.length ≤ cap := hc1
      unfold maxLen at hc2
      clear hc3 hc1
      have d1' : w1.cell? ⟨g, 1, none⟩ = some (.int .i64 ((st.p : Int) + m)) := by rw [d1]; rfl
      have d0' : w1.cell? ⟨g, 0, none⟩ = some (.slice (some ⟨b, 0, none⟩) st.d.length cap) := d0
      clear d1 d0
      by_cases hedge : cap = st.p
      · obtain rfl : m = 0 := by omega
        have hcv := fun q => HR 0 0 q (fun h => by omega)
        have HR' := hide HR
        clear HR
        go_wp2
        go_quiet (fail)
        go_wp2
        go_ret
        exact ⟨rfl, HF.out.1, HF.out.2.drewN _⟩
      · have hcv := fun q => HR (cap - st.p) st.p q (fun _ => rfl)
        have HR' := hide HR
        clear HR
        go_wp2
        go_quiet (fail)
        go_wp2
        go_ret
        exact ⟨rfl, HF.out.1, HF.out.2.drewN _⟩
end Go.Proofs.Ythjgabncifghaab
