import Derived.Test.YtijmmfimkibgbaaGOws
import Derived.Test.YtijmmfimkibgbaaGXor
import Derived.Test.YtijmmfimkibgbaaGJxq
namespace Go.Proofs.Ytijmmfimkibgbaa
open Go.RowKit Go.Maps
set_option maxRecDepth 20000
set_option linter.unusedVariables false
set_option linter.unusedSimpArgs false

theorem xor1_i64 {s : Int} (h0 : 0 ≤ s) (h1 : s ≤ 65535) : 0 ≤ bits .xor .i64 s 1 ∧ bits .xor .i64 s 1 ≤ 65535 := by
  obtain ⟨n, rfl⟩ : ∃ n : Nat, s = n := ⟨s.toNat, by omega⟩
  have hn : n < 65536 := by omega
  have hx : n ^^^ 1 < 2 ^ 16 := Nat.xor_lt_two_pow (by omega) (by omega)
  have e : bits .xor .i64 (n : Int) 1 = ((n ^^^ 1 : Nat) : Int) := by
    have h1 : (BitVec.ofInt 64 (n : Int)).toNat = n := by
      rw [BitVec.ofInt_natCast, BitVec.toNat_ofNat]; exact Nat.mod_eq_of_lt (by omega)
    have h2 : (BitVec.ofInt 64 1).toNat = 1 := by decide
    show IntKind.i64.wrap ((BitVec.ofInt 64 (n : Int) ^^^ BitVec.ofInt 64 1).toNat : Int) = _
    rw [BitVec.toNat_xor, h1, h2, IntKind.wrap_i64]
    omega
  rw [e]
  omega

def flipL (l : Loc) : Loc := { l with sum := bits .xor .u32 l.sum 1 }
def flipC (c : Cen) : Cen := { c with loc := flipL c.loc }
def flipE (x : Enr) : Enr := { x with disk := bits .xor .i64 x.disk 1 }

theorem flip_sum {l : Loc} (ok : l.Ok) : 0 ≤ (flipL l).sum ∧ (flipL l).sum < 4294967296 := by
  have h0 := ok.sum0
  have h1 := ok.sum1
  show 0 ≤ bits .xor .u32 l.sum 1 ∧ bits .xor .u32 l.sum 1 < 4294967296
  rw [xor1_u32 h0 h1]
  split <;> omega

theorem flipL_ok {l : Loc} (ok : l.Ok) : (flipL l).Ok := { ok with sum0 := (flip_sum ok).1, sum1 := (flip_sum ok).2 }
theorem flipC_ok {c : Cen} (ok : c.Ok) : (flipC c).Ok := { ok with loc := flipL_ok ok.loc }

theorem en_disk {x : Enr} (hf : fitI (enI x)) : 0 ≤ x.disk ∧ x.disk ≤ 65535 := by
  have h : ¬ wide x.disk 2 := hf (.num x.disk 2) (by simp [enI])
  unfold wide at h
  omega

theorem flipE_ok {x : Enr} (ok : x.Ok) (hf : fitI (enI x)) : (flipE x).Ok := by
  have h := en_disk hf
  have h2 := xor1_i64 h.1 h.2
  exact { ok with disk := by show Ok64 (bits .xor .i64 x.disk 1); unfold Ok64; omega }

theorem flipL_fit {l : Loc} (ok : l.Ok) (hf : fitI (loI l)) : fitI (loI (flipL l)) := by
  have hs := flip_sum ok
  simp only [loI, lcI, List.cons_append, List.nil_append]
  refine fitI_cons (by show ¬ wide _ _; unfold wide; omega) ?_
  iterate 5 refine fitI_cons (hf _ (by simp [loI, lcI, flipL])) ?_
  refine fitI_cons (by show ¬ wide _ _; unfold wide; omega) ?_
  iterate 4 refine fitI_cons (hf _ (by simp [loI, lcI, flipL])) ?_
  exact fitI_cons (fit_txt _) (fitI_cons (fit_txt _) fitI_nil)

theorem flipC_fit {c : Cen} (ok : c.Ok) (hf : fitI (ceI c)) : fitI (ceI (flipC c)) :=
  ce_of (flipL_fit ok.loc (ce_lo_fit hf)) (hf (.num c.made 2) (by simp [ceI])) (hf (.num c.disk 2) (by simp [ceI])) (hf (.num c.internal 2) (by simp [ceI])) (hf (.num c.external 4) (by simp [ceI])) (hf (.num c.at' 4) (by simp [ceI])) (hf (.num (c.comment.size : Int) 2) (by simp [ceI]))

theorem flipE_fit {x : Enr} (hf : fitI (enI x)) : fitI (enI (flipE x)) := by
  have h := en_disk hf
  have h2 := xor1_i64 h.1 h.2
  simp only [enI]
  refine fitI_cons (by show ¬ wide _ _; unfold wide; omega) (fitI_cons (by show ¬ wide (bits .xor .i64 x.disk 1) 2; unfold wide; omega) ?_)
  iterate 6 refine fitI_cons (hf _ (by simp [enI, flipE])) ?_
  exact fitI_cons (fit_txt _) fitI_nil

theorem flipC_len (c : Cen) : (rowI (ceI (flipC c))).length = (rowI (ceI c)).length := by rw [ceI_row, ceI_row]; rfl
theorem flipL_len (l : Loc) : (rowI (loI (flipL l))).length = (rowI (loI l)).length := by rw [loI_row, loI_row]; rfl
theorem flipE_len (x : Enr) : (rowI (enI (flipE x))).length = (rowI (enI x)).length := by rw [enI_row, enI_row]; rfl

theorem flipC_cs (c : Cen) : c.cs.setIfInBounds 5 (.int .u32 (bits .xor .u32 c.loc.sum 1)) = (flipC c).cs := rfl
theorem flipE_cs (x : Enr) : x.cs.setIfInBounds 0 (.int .i64 (bits .xor .i64 x.disk 1)) = (flipE x).cs := rfl

theorem box_at {w : World} {g : Nat} {A : Array Value} {t : TypeId} (h : w.heap[g]? = some (.cells A t (0, 0))) {j : Nat} {u : Value} (hj : A[j]? = some u) : w.cell? ⟨g, j, none⟩ = some u ∧ w.frozen? ⟨g, j, none⟩ = false :=
  ⟨(box_cells h j).trans hj, by simp [World.frozen?, h]⟩

theorem Own.over {w0 W : World} {hs : List (Nat × Array Value × TypeId)} {ls : List (Nat × Nat × List Int)} {i j g p h q k : Nat} {A B : List Int} (hO : Own w0 W hs ls) (hi : ls[i]? = some (g, p, B.take k ++ A.drop k)) (hj : ls[j]? = some (h, q, B)) (hl : B.length = A.length) (hk : k < A.length) :
    Own w0 (W.setCell ⟨g, k, none⟩ (.int .u8 (B.getD k 0))) hs (ls.set i (g, p, B.take (k + 1) ++ A.drop (k + 1))) ∧ (∃ u, W.cell? ⟨g, k, none⟩ = some (.int .u8 u)) ∧ W.frozen? ⟨g, k, none⟩ = false ∧ W.cell? ⟨h, k, none⟩ = some (.int .u8 (B.getD k 0)) := by
  have e1 : (B.take k ++ A.drop k).length = A.length := by simp; omega
  have e2 : (B.take (k + 1) ++ A.drop (k + 1)).length = A.length := by simp; omega
  have ho := hO.sl _ _ _ _ hi
  rw [e1] at ho
  obtain ⟨h1, h2, h3⟩ := OB.over hl ho hk
  rw [← e2] at h1
  exact ⟨hO.set hi (grownBy_set rfl) h1, h2, h3, ((hO.sl _ _ _ _ hj).cellAt (j := k) (by omega)).1⟩

/-- One extra field in a block of its own. -/
theorem sr_one {w : World} {b : Nat} {t : TypeId} (r : Xf) (h : w.heap[b]? = some (.cells (csX r) t (0, 0))) : SR 2 w (.slice (some ⟨b, 0, none⟩) 1 1) ([r].map csX) := by
  refine ⟨some ⟨b, 0, none⟩, 1, rfl, Nat.le_refl _, by omega, fun _ => ⟨b, 0, rfl, (Array.getElem?_eq_some_iff.1 h).1, fun i hi => ?_⟩⟩
  obtain rfl : i = 0 := by simp at hi; omega
  exact range_of h

theorem join_a : jS [(1, ⟨#[97]⟩)] = ⟨#[1, 0, 1, 0, 97]⟩ ∧ jE [(1, ⟨#[97]⟩)] = 0 := by decide +kernel
theorem join_b : jS [(1, ⟨#[98]⟩)] = ⟨#[1, 0, 1, 0, 98]⟩ ∧ jE [(1, ⟨#[98]⟩)] = 0 := by decide +kernel
end Go.Proofs.Ytijmmfimkibgbaa

