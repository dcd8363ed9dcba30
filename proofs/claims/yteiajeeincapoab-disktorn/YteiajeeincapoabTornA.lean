import Derived.Test.YteiajeeincapoabWalk3
namespace Go.Proofs.Yteiajeeincapoab
open Go.RowKit Go.Maps

theorem getD_end (l : List Int) (i : Nat) (h : l.length ≤ i) : l.getD i 0 = 0 := by
  simp only [List.getD]
  rw [List.getElem?_eq_none h]
  rfl

def partB (l m : List Int) (f : Nat) : Bool := (List.range 512).all fun j => decide (f + j < l.length → l.getD (f + j) 0 = m.getD (f + j) 0)

theorem partB_yes {l m : List Int} {f : Nat} (h : ∀ i, f ≤ i → i < f + 512 → i < l.length → l.getD i 0 = m.getD i 0) : partB l m f = true := by
  unfold partB
  rw [List.all_eq_true]
  intro j hj
  have := List.mem_range.1 hj
  exact decide_eq_true fun hl => h (f + j) (by omega) (by omega) hl

theorem partB_no {l m : List Int} {f k : Nat} (h1 : f ≤ k) (h2 : k < f + 512) (h3 : k < l.length) (h : l.getD k 0 ≠ m.getD k 0) : partB l m f = false := by
  cases e : partB l m f
  · rfl
  · unfold partB at e
    rw [List.all_eq_true] at e
    have := of_decide_eq_true (e (k - f) (List.mem_range.2 (by omega)))
    rw [show f + (k - f) = k by omega] at this
    exact absurd (this h3) h

theorem SB.cells {w : World} {a : Option Addr} {n c : Nat} {l : List Int} (h : SB w (.slice a n c) l) (h0 : 0 < l.length) : ∃ b o, a = some ⟨b, o, none⟩ ∧ ∀ k, k < l.length → w.cell? ⟨b, o + k, none⟩ = some (.int .u8 (l.getD k 0)) := by
  obtain ⟨ao, cap, he, h1, h2, h3, h4⟩ := h
  simp only [Value.slice.injEq] at he
  obtain ⟨rfl, -, rfl⟩ := he
  cases a with
  | none => have := h3 rfl; omega
  | some x =>
    obtain ⟨b, o, rfl⟩ := addr_lit (h4 x rfl 0 h0)
    exact ⟨b, o, rfl, fun k hk => by have := h4 _ rfl k hk; rwa [Addr.add_lit] at this⟩

theorem part_walk (a1 a2 : Option Addr) (c1 c2 : Nat) (l m : List Int) (f : Nat) (w : World) (h1 : SB w (.slice a1 l.length c1) l) (h2 : SB w (.slice a2 m.length c2) m) (hf : f < l.length) (hl : l.length ≤ 16777216) (hm : m.length ≤ 16777216) :
    Calls Try.prog 42 #[.slice a1 l.length c1, .slice a2 m.length c2, .int .i64 f] w fun e w' => e = .returned (.bool (partB l m f)) ∧ w' = w := by
  obtain ⟨b1, o1, rfl, g1⟩ := h1.cells (by omega)
  have G1 := hide g1
  have H2 := hide h2
  clear g1 h1 h2
  go_enter Try.func42, Try.ntmps42
  go_wp2
  go_loopw [7] (fun i wr => ∃ k : Nat, i = .int .i64 k ∧ f ≤ k ∧ k ≤ f + 512 ∧ k ≤ l.length ∧ wr = w ∧ Hid (∀ i, f ≤ i → i < k → l.getD i 0 = m.getD i 0)) (fun i _ => l.length - (intOf i).toNat)
  case atStart => exact ⟨f, rfl, Nat.le_refl _, by omega, by omega, rfl, fun i h1 h2 => by omega⟩
  case round =>
    obtain ⟨k, rfl, hk1, hk2, hk3, hw, HT⟩ := hrel
    subst hw
    by_cases hlt : k < f + 512
    case neg =>
      have hlt' : ¬ (k : Int) < (f : Int) + 512 := by omega
      go_wp2
      go_ret
      rw [partB_yes (fun i i1 i2 i3 => HT.out i i1 (by omega))]
      exact ⟨rfl, rfl⟩
    case pos =>
      have hlt' : (k : Int) < (f : Int) + 512 := by omega
      by_cases hll : k < l.length
      case neg =>
        have hll' : ¬ (k : Int) < (l.length : Int) := by omega
        go_wp2
        go_ret
        rw [partB_yes (fun i i1 i2 i3 => HT.out i i1 (by omega))]
        exact ⟨rfl, rfl⟩
      case pos =>
        have hll' : (k : Int) < (l.length : Int) := by omega
        obtain ⟨x1, hc1, HC1⟩ : ∃ c, wr.cell? ⟨b1, o1 + k, none⟩ = some (.int .u8 c) ∧ Hid (c = l.getD k 0) := ⟨_, G1.out k hll, rfl⟩
        by_cases hlm : k < m.length
        case pos =>
          have hlm' : (k : Int) < (m.length : Int) := by omega
          obtain ⟨b2, o2, rfl, g2⟩ := H2.out.cells (by omega)
          obtain ⟨x2, hc2, HC2⟩ : ∃ c, wr.cell? ⟨b2, o2 + k, none⟩ = some (.int .u8 c) ∧ Hid (c = m.getD k 0) := ⟨_, g2 k hlm, rfl⟩
          clear g2
          by_cases hcc : x1 = x2
          · subst hcc
            go_wp2
            go_roundw
            case rel => exact ⟨k + 1, by go_num, by omega, by omega, by omega, trivial, fun i h1 h2 => by
              by_cases e : i = k
              · rw [e, ← HC1.out, ← HC2.out]
              · exact HT.out i h1 (by omega)⟩
            case measure => simp [intOf]; omega
          · have hcb : (x1 != x2) = true := by simpa using hcc
            go_wp2
            go_ret
            rw [partB_no hk1 (by omega) hll (by rw [← HC1.out, ← HC2.out]; exact hcc)]
            exact ⟨rfl, rfl⟩
        case neg =>
          have hlm' : ¬ (k : Int) < (m.length : Int) := by omega
          have HM := hide (getD_end m k (by omega))
          by_cases hcc : x1 = 0
          · subst hcc
            go_wp2
            go_roundw
            case rel => exact ⟨k + 1, by go_num, by omega, by omega, by omega, trivial, fun i h1 h2 => by
              by_cases e : i = k
              · rw [e, ← HC1.out, HM.out]
              · exact HT.out i h1 (by omega)⟩
            case measure => simp [intOf]; omega
          · have hcb : (x1 != 0) = true := by simpa using hcc
            go_wp2
            go_ret
            rw [partB_no hk1 (by omega) hll (by rw [← HC1.out, HM.out]; exact hcc)]
            exact ⟨rfl, rfl⟩

def SM (w : World) (v : Value) (ms : List (List Int)) : Prop :=
  ∃ a cap, v = .slice a ms.length cap ∧ ms.length ≤ cap ∧ cap ≤ maxLen ∧ ∀ (j : Nat) (m : List Int), ms[j]? = some m → ∃ b o av cv, a = some ⟨b, o, none⟩ ∧ w.cell? ⟨b, o + j, none⟩ = some (.slice av m.length cv) ∧ SB w (.slice av m.length cv) m

theorem sectors_walk (a1 : Option Addr) (c1 : Nat) (vm : Value) (out : List Int) (ms : List (List Int)) (w : World) (h1 : SB w (.slice a1 out.length c1) out) (h2 : SM w vm ms) (hl : out.length ≤ 16777216) (hml : ∀ m ∈ ms, m.length ≤ 16777216)
    (hsz : ∃ m ∈ ms, m.length = out.length) (hsec : ∀ s, ∃ m ∈ ms, partB out m (s * 512) = true) :
    Calls Try.prog 28 #[.slice a1 out.length c1, vm] w fun e w' => e = .returned (.bool true) ∧ w' = w := by
  obtain ⟨a2, c2, rfl, hc1, hc2, hc⟩ := h2
  unfold maxLen at hc2
  have H1 := hide h1
  have HC := hide hc
  have HML := hide hml
  have HSZ := hide hsz
  have HSEC := hide hsec
  clear h1 hc hml hsz hsec
  go_enter Try.func28, Try.ntmps28
  go_wp2
  go_loopw [5, 6] (fun s i wr => ∃ (k : Nat) (b : Bool), s = .bool b ∧ i = .int .i64 k ∧ k ≤ ms.length ∧ wr = w ∧ Hid (b = false → ∀ (j : Nat) (m : List Int), j < k → ms[j]? = some m → m.length ≠ out.length)) (fun _ i _ => ms.length - (intOf i).toNat)
  case atStart => exact ⟨0, false, rfl, rfl, Nat.zero_le _, rfl, fun _ j m hj => by omega⟩
  case round =>
    obtain ⟨k, b, rfl, rfl, hk, hw, HI⟩ := hrel
    subst hw
    by_cases hlt : k < ms.length
    case pos =>
      have hlt' : (k : Int) < (ms.length : Int) := by omega
      obtain ⟨m, hm⟩ : ∃ m, ms[k]? = some m := ⟨ms[k], by simp [hlt]⟩
      obtain ⟨bb, oo, av, cv, rfl, hcell, hsb⟩ := HC.out k m hm
      have HM := hide hm
      clear hsb hm
      cases b
      case true =>
        go_wp2
        go_roundw
        case rel => exact ⟨k + 1, true, rfl, by go_num, by omega, trivial, fun e => by cases e⟩
        case measure => simp [intOf]; omega
      case false =>
        by_cases he : m.length = out.length
        · have he' : ((m.length : Int) == (out.length : Int)) = true := by simp [he]
          clear he
          go_wp2
          go_roundw
          case rel => exact ⟨k + 1, true, rfl, by go_num, by omega, trivial, fun e => by cases e⟩
          case measure => simp [intOf]; omega
        · have he' : ((m.length : Int) == (out.length : Int)) = false := by simp; omega
          have HE := hide he
          clear he
          go_wp2
          go_roundw
          case rel =>
            refine ⟨k + 1, false, rfl, by go_num, by omega, trivial, fun _ j m' hj hm' => ?_⟩
            by_cases ej : j = k
            · subst ej
              have := HM.out.symm.trans hm'
              simp only [Option.some.injEq] at this
              rw [← this]
              exact HE.out
            · exact HI.out rfl j m' (by omega) hm'
          case measure => simp [intOf]; omega
    case neg =>
      have hlt' : ¬ (k : Int) < (ms.length : Int) := by omega
      cases b
      case false =>
        obtain ⟨m, hm, he⟩ := HSZ.out
        obtain ⟨j, hj, rfl⟩ := List.getElem_of_mem hm
        exact absurd he (HI.out rfl j _ (by omega) (by simp [hj]))
      case true =>
        clear HI HSZ
        go_wp2
        go_loopw [7] (fun f wq => ∃ s : Nat, f = .int .i64 ((s * 512 : Nat) : Int) ∧ s * 512 < out.length + 512 ∧ wq = wr) (fun f _ => out.length - (intOf f).toNat)
        case atStart => exact ⟨0, rfl, by omega, rfl⟩
        case round =>
          obtain ⟨s, rfl, hs, hw⟩ := hrel
          subst hw
          by_cases hlt : s * 512 < out.length
          case neg =>
            have hlt' : ¬ ((s * 512 : Nat) : Int) < (out.length : Int) := by omega
            go_wp2
            go_ret
            exact ⟨rfl, rfl⟩
          case pos =>
            obtain ⟨f, hf⟩ : ∃ f, f = s * 512 := ⟨_, rfl⟩
            have HSX := HSEC.out s
            rw [← hf] at hlt HSX ⊢
            have HSX := hide HSX
            have hlt' : (f : Int) < (out.length : Int) := by omega
            have HF := hide hf
            clear hf hs
            go_wp2
            go_loopw [8, 9] (fun fd i wq => ∃ (k : Nat) (b : Bool), fd = .bool b ∧ i = .int .i64 k ∧ k ≤ ms.length ∧ wq = wr ∧ Hid (b = false → ∀ (j : Nat) (m : List Int), j < k → ms[j]? = some m → partB out m f = false)) (fun _ i _ => ms.length - (intOf i).toNat)
            case atStart => exact ⟨0, false, rfl, rfl, Nat.zero_le _, rfl, fun _ j m hj => by omega⟩
            case round =>
              obtain ⟨k, b, rfl, rfl, hk, hw, HI⟩ := hrel
              subst hw
              by_cases hltk : k < ms.length
              case pos =>
                have hltk' : (k : Int) < (ms.length : Int) := by omega
                cases b
                case true =>
                  clear HI
                  go_wp2
                  go_roundw
                  case rel => exact ⟨s + 1, by have := HF.out; go_num, by have := HF.out; omega, trivial⟩
                  case measure => simp [intOf]; omega
                case false =>
                  obtain ⟨m, hm⟩ : ∃ m, ms[k]? = some m := ⟨ms[k], by simp [hltk]⟩
                  obtain ⟨bb, oo, av, cv, rfl, hcell, hsb⟩ := HC.out k m hm
                  have hmm := HML.out m (List.mem_of_getElem? hm)
                  have HM := hide hm
                  have HSB := hide hsb
                  clear hsb hm
                  go_wp2_with fail
                  refine (part_walk a1 av c1 cv out m f _ H1.out HSB.out hlt hl hmm).mono ?_
                  rintro e w5 ⟨rfl, rfl⟩
                  obtain ⟨pb, hpb⟩ : ∃ pb, pb = partB out m f := ⟨_, rfl⟩
                  rw [← hpb]
                  have HPB := hide hpb
                  clear hpb
                  go_wp2
                  go_roundw
                  case rel =>
                    refine ⟨k + 1, pb, rfl, by go_num, by omega, trivial, fun e j m' hj hm' => ?_⟩
                    by_cases ej : j = k
                    · subst ej
                      have := HM.out.symm.trans hm'
                      simp only [Option.some.injEq] at this
                      rw [← this, ← HPB.out]
                      exact e
                    · exact HI.out (by first | rfl | trivial) j m' (by omega) hm'
                  case measure => simp [intOf]; omega
              case neg =>
                have hltk' : ¬ (k : Int) < (ms.length : Int) := by omega
                cases b
                case false =>
                  obtain ⟨m, hm, he⟩ := HSX.out
                  obtain ⟨j, hj, rfl⟩ := List.getElem_of_mem hm
                  have := HI.out (by first | rfl | trivial) j ms[j] (by omega) (List.getElem?_eq_getElem hj)
                  rw [this] at he
                  cases he
                case true =>
                  clear HI
                  go_wp2
                  go_roundw
                  case rel => exact ⟨s + 1, by have := HF.out; go_num, by have := HF.out; omega, trivial⟩
                  case measure => simp [intOf]; omega
end Go.Proofs.Yteiajeeincapoab
