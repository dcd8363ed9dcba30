import Derived.Test.YtgengoffkoonfabGOdr
namespace Go.Proofs.Ytgengoffkoonfab
open Go.RowKit Go.Maps
set_option maxRecDepth 20000
set_option linter.unusedVariables false

/-- The frequencies, by a factor. -/
def scl (b : Nat) (f : List Int) : List Int := f.map fun x => (b : Int) * x

theorem scl_len (b : Nat) (f : List Int) : (scl b f).length = f.length := by simp [scl]

theorem scl_get (b : Nat) (f : List Int) (i : Nat) : (scl b f).getD i 0 = (b : Int) * f.getD i 0 := by
  simp only [scl, List.getD_eq_getElem?_getD, List.getElem?_map]
  cases f[i]? <;> simp

theorem scl_us {b : Nat} (hb : 1 ≤ b) (f : List Int) : us (scl b f) = us f := by
  unfold us usk
  rw [scl_len]
  refine List.filter_congr fun s _ => ?_
  rw [scl_get]
  have : (0 < (b : Int) * f.getD s 0) ↔ 0 < f.getD s 0 := by
    constructor
    · intro h
      apply Classical.byContradiction
      intro c
      have : (b : Int) * f.getD s 0 ≤ 0 := Int.mul_nonpos_of_nonneg_of_nonpos (by omega) (by omega)
      omega
    · intro h
      exact Int.mul_pos (by omega) h
  simp only [this]

theorem scl_fq {b : Nat} {f : List Int} (hs : Sound f) (s : Nat) : fq (scl b f) s = b * fq f s := by
  have := hs.nn s
  unfold fq
  rw [scl_get]
  have e : f.getD s 0 = ((f.getD s 0).toNat : Int) := by omega
  rw [e, ← Int.natCast_mul, Int.toNat_natCast, Int.toNat_natCast]

theorem scl_leafs {b : Nat} {f : List Int} (hs : Sound f) (l : List Nat) : leafs (fq (scl b f)) l = sc b (leafs (fq f) l) := by
  unfold leafs sc
  rw [List.map_map]
  refine List.map_congr_left fun s _ => ?_
  simp [scl_fq hs]

theorem scl_dpt {b : Nat} {f : List Int} (hb : 1 ≤ b) (hs : Sound f) : dpt (scl b f) = dpt f := by
  unfold dpt
  rw [scl_len]
  refine List.map_congr_left fun s _ => ?_
  unfold dp
  rw [scl_us hb, scl_leafs hs, hrun_sc hb]

theorem scl_srl {b : Nat} {f : List Int} (hb : 1 ≤ b) (hs : Sound f) : srl (scl b f) = srl f := by
  have h := srl_srt (scl b f)
  rw [scl_us hb] at h
  refine srt_eq ⟨h.perm, h.rise.imp fun {s t} hst => ?_⟩ (srl_srt f)
  unfold Lf at hst ⊢
  rw [scl_get, scl_get] at hst
  have hb' : (0 : Int) < b := by omega
  rcases hst with q | ⟨q, r⟩
  · exact .inl (Int.lt_of_mul_lt_mul_left q (by omega))
  · exact .inr ⟨Int.eq_of_mul_eq_mul_left (by omega) q, r⟩

theorem scl_lmt {b L : Nat} {f : List Int} (hb : 1 ≤ b) (hs : Sound f) : lmt (scl b f) L = lmt f L := by
  unfold lmt
  rw [scl_len]
  refine List.map_congr_left fun s _ => ?_
  have e : lws (scl b f) = (lws f).map (b * ·) := by
    unfold lws
    rw [scl_srl hb hs, List.map_map]
    exact List.map_congr_left fun s _ => scl_fq hs s
  unfold lm
  rw [scl_us hb, e, sel_sc hb, scl_srl hb hs]

theorem scl_sound {b : Nat} {f : List Int} (hs : Sound f) (h : ∀ i, i < f.length → f.getD i 0 ≤ ((4294967296 / b : Nat) : Int)) : Sound (scl b f) := by
  refine ⟨by rw [scl_len]; exact hs.len, fun i hi => ?_⟩
  rw [scl_len] at hi
  rw [scl_get]
  have h0 := hs.nn i
  have h1 := h i hi
  refine ⟨Int.mul_nonneg (by omega) h0, ?_⟩
  have e : f.getD i 0 = ((f.getD i 0).toNat : Int) := by omega
  rw [e] at h1 ⊢
  rw [← Int.natCast_mul]
  have h2 : (f.getD i 0).toNat ≤ 4294967296 / b := by omega
  have h3 : b * (f.getD i 0).toNat ≤ 4294967296 := Nat.le_trans (Nat.mul_le_mul_left b h2) (Nat.mul_div_le 4294967296 b)
  omega

theorem scl_take (b : Nat) (f : List Int) {k : Nat} (h : k < f.length) : (scl b f).take (k + 1) = (scl b f).take k ++ [(b : Int) * f.getD k 0] := by
  rw [take_snoc (by rw [scl_len]; exact h), scl_get]
end Go.Proofs.Ytgengoffkoonfab

