import Derived.Test.YtippppcdongahaaDoorG33Jnd
import Derived.Test.YtippppcdongahaaDoorG16Exq
namespace Go.Proofs.YtippppcdongahaaDoor
open Go.RowKit Go.Maps
set_option maxRecDepth 20000
set_option linter.unusedVariables false

theorem Chn.mem {d : Bool} {a n b z : Nat} {ps : List Pc} (h : Chn d a n ps b z) : ∀ x ∈ ps, x.to0 ≤ x.to1 ∧ x.to1 ≤ z := by
  induction h with
  | nil => intro x hx; cases hx
  | last h0 h1 h2 h3 h4 => intro x hx; rw [List.mem_singleton.1 hx]; exact ⟨h4, Nat.le_refl _⟩
  | go h1 h2 h3 h4 h5 ih =>
    intro x hx
    rcases List.mem_cons.1 hx with rfl | hx
    · exact ⟨h4, h5.le.2⟩
    · exact ih x hx

theorem Chn.count {d : Bool} {a n b z : Nat} {ps : List Pc} (h : Chn d a n ps b z) : a + 3 * ps.length ≤ b := by
  induction h with
  | nil => simp
  | last h0 h1 h2 h3 h4 => simp; omega
  | go h1 h2 h3 h4 h5 ih => simp only [List.length_cons]; omega

structure Same (l : List Int) (limit E : Int) (n : Nat) (o : List Int) (R ps : List Pc) (oo : List Int) (b z : Nat) : Prop where
  kind : (¬ (l.length ≤ 33554432 ∧ 0 ≤ limit ∧ limit ≤ 16777216) ∧ ps = []) ∨ ((l.length ≤ 33554432 ∧ 0 ≤ limit ∧ limit ≤ 16777216) ∧ ∃ E q, Txt (unpack l) limit.toNat 0 [] ps E q oo)
  chn : Chn (E == 0) 0 0 ps b z
  lb : b ≤ 268435456
  lz : z ≤ 16777216
  lo : oo.length = z
  good : E = 0 → R = ps ∧ o = oo ∧ b = n ∧ z = o.length ∧ n ≤ 8 * l.length ∧ (o.length : Int) ≤ limit ∧ ps.flatMap (sg oo) = oo ∧ l.length ≤ 33554432
  bad : E ≠ 0 → R = [] ∧ o = [] ∧ n = 0
  seg : ∀ x ∈ ps, (sg oo x).length = x.to1 - x.to0 ∧ x.to0 ≤ x.to1 ∧ x.to1 ≤ 16777216
  all : ps.flatMap (sg oo) = oo

theorem same_facts {l : List Int} {limit E E' : Int} {n : Nat} {o : List Int} {R : List Pc} (hB : Byt l) (h : Ifl l limit E n o) (h' : Wlk l limit E' R) : E' = E ∧ ∃ ps oo b z, Same l limit E n o R ps oo b z := by
  rcases h with ⟨a, rfl, rfl, rfl⟩ | ⟨a, ps, q, oo, t, r⟩ <;> rcases h' with ⟨a', rfl, rfl⟩ | ⟨a', ps', q', oo', t', r'⟩
  · exact ⟨rfl, [], [], 0, 0, .inl ⟨a, rfl⟩, Chn.nil rfl, by omega, by omega, rfl, (fun e => absurd e (by decide)), (fun _ => ⟨rfl, rfl, rfl⟩), (fun x hx => by cases hx), rfl⟩
  · exact absurd a' a
  · exact absurd a a'
  · obtain ⟨rfl, rfl, rfl, rfl⟩ := t.det t'
    have hbit : Bit (unpack l) := by
      have := t
      exact bit_unpack l
    have hlen : (unpack l).length = 8 * l.length := length_unpack l
    have hc := t.chn hbit
    have hle := t.le hbit (Nat.zero_le _) (Nat.zero_le _)
    have hal := t.segs
    rw [List.nil_append] at hal
    have hlim : limit.toNat ≤ 16777216 := by omega
    refine ⟨rfl, ps, oo, q, oo.length, .inr ⟨a, E, q, t⟩, hc, by omega, by omega, rfl, fun e => ?_, fun e => ?_, fun x hx => ?_, hal⟩
    · rcases r with ⟨_, rfl, rfl⟩ | ⟨c, _⟩
      · rcases r' with ⟨_, rfl⟩ | ⟨c, _⟩
        · exact ⟨rfl, rfl, rfl, rfl, by omega, by omega, hal, a.1⟩
        · exact absurd e c
      · exact absurd e c
    · rcases r with ⟨c, _⟩ | ⟨_, rfl, rfl⟩
      · exact absurd c e
      · rcases r' with ⟨c, _⟩ | ⟨_, rfl⟩
        · exact absurd c e
        · exact ⟨rfl, rfl, rfl⟩
    · have := hc.mem x hx
      refine ⟨?_, this.1, by omega⟩
      unfold sg
      rw [List.length_take, List.length_drop]
      omega

theorem Same.part {l : List Int} {limit E : Int} {n : Nat} {o : List Int} {R ps : List Pc} {oo : List Int} {b z : Nat} (h : Same l limit E n o R ps oo b z) (k : Nat) : ((ps.take k).flatMap (sg oo)).length ≤ 16777216 := by
  have h1 := congrArg List.length h.all
  rw [← List.take_append_drop k ps, List.flatMap_append, List.length_append] at h1
  have := h.lo
  have := h.lz
  omega
end Go.Proofs.YtippppcdongahaaDoor

