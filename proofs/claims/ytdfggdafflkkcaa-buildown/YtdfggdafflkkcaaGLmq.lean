import Derived.Test.YtdfggdafflkkcaaGDp
import Derived.Test.YtdfggdafflkkcaaGStb
namespace Go.Proofs.Ytdfggdafflkkcaa
open Go.RowKit Go.Maps
set_option maxRecDepth 20000
set_option linter.unusedVariables false

/-- The used symbols, by frequency, then by symbol. -/
def srl (l : List Int) : List Nat := (us l).mergeSort fun s t => decide (l.getD s 0 < l.getD t 0 ∨ l.getD s 0 = l.getD t 0 ∧ s ≤ t)

theorem srl_srt (l : List Int) : Srt l (us l) (srl l) := by
  have hp := List.mergeSort_perm (us l) fun s t => decide (l.getD s 0 < l.getD t 0 ∨ l.getD s 0 = l.getD t 0 ∧ s ≤ t)
  refine ⟨hp, ?_⟩
  have h := List.pairwise_mergeSort (le := fun s t => decide (l.getD s 0 < l.getD t 0 ∨ l.getD s 0 = l.getD t 0 ∧ s ≤ t)) (fun a b c h1 h2 => by simp only [decide_eq_true_eq] at *; omega) (fun a b => by simp only [Bool.or_eq_true, decide_eq_true_eq]; omega) (us l)
  have hn : (srl l).Nodup := hp.nodup_iff.2 (us_nodup l)
  refine (h.and hn).imp fun {a b} hab => ?_
  obtain ⟨h1, h2⟩ := hab
  simp only [decide_eq_true_eq] at h1
  unfold Lf
  omega

theorem srt_eq {l : List Int} {S T T' : List Nat} (h : Srt l S T) (h' : Srt l S T') : T = T' :=
  (h.perm.trans h'.perm.symm).eq_of_pairwise (le := Lf l) (fun a b _ _ h1 h2 => by unfold Lf at h1 h2; omega) h.rise h'.rise

theorem srl_len (l : List Int) : (srl l).length = (us l).length := (srl_srt l).perm.length_eq
theorem srl_mem {l : List Int} {s : Nat} : s ∈ srl l ↔ s ∈ us l := (srl_srt l).perm.mem_iff
theorem srl_nodup (l : List Int) : (srl l).Nodup := (srl_srt l).perm.nodup_iff.2 (us_nodup l)

/-- The weights of the leaves. -/
def lws (l : List Int) : List Nat := (srl l).map (fq l)

theorem lws_len (l : List Int) : (lws l).length = (us l).length := by simp [lws, srl_len]

theorem lws_rise {l : List Int} (h : ∀ i, 0 ≤ l.getD i 0) : Rise (lws l) := by
  unfold lws Rise
  rw [List.pairwise_map]
  refine (srl_srt l).rise.imp fun {a b} hab => ?_
  unfold Lf at hab
  have := h a
  have := h b
  unfold fq
  omega

/-- Limited's length of a symbol. -/
def lm (l : List Int) (L s : Nat) : Nat := if (us l).length = 1 then (if s ∈ us l then 1 else 0) else if s ∈ us l then ct (sel (lws l) L (2 * (us l).length - 2)) ((srl l).idxOf s) else 0

def lmt (l : List Int) (L : Nat) : List Int := (List.range l.length).map fun s => (lm l L s : Int)

def lmE (l : List Int) (lim : Int) : Int := if 288 < l.length ∨ lim < 1 ∨ 15 < lim then 1 else if bnb l 4294967296 = false then 61 else if 2 ^ lim.toNat < (us l).length then 60 else 0
def lmL (l : List Int) (lim : Int) : List Int := if lmE l lim = 0 then lmt l lim.toNat else []

theorem lmt_len (l : List Int) (L : Nat) : (lmt l L).length = l.length := by simp [lmt]

theorem lm_out {l : List Int} {L s : Nat} (h : s ∉ us l) : lm l L s = 0 := by
  unfold lm
  rw [if_neg h, if_neg h]
  split <;> rfl

theorem lmt_spr (l : List Int) (L : Nat) : spr l.length (srl l) (fun s => (lm l L s : Int)) = lmt l L := by
  unfold spr lmt
  refine List.map_congr_left fun s _ => ?_
  by_cases h : s ∈ srl l
  · rw [if_pos h]
  · rw [if_neg h, lm_out (fun q => h (srl_mem.2 q))]; rfl

theorem lmt_few {l : List Int} {L : Nat} (h : (us l).length < 2) : spr l.length (us l) (fun _ => 1) = lmt l L := by
  unfold spr lmt
  refine List.map_congr_left fun s _ => ?_
  by_cases hs : s ∈ us l
  · have h1 : (us l).length = 1 := by have := List.length_pos_of_mem hs; omega
    rw [if_pos hs]
    unfold lm
    rw [if_pos h1, if_pos hs]
    rfl
  · rw [if_neg hs, lm_out hs]; rfl

theorem lm_at {l : List Int} {L i : Nat} (h2 : 2 ≤ (us l).length) (hi : i < (srl l).length) : lm l L ((srl l)[i]) = ct (sel (lws l) L (2 * (us l).length - 2)) i := by
  unfold lm
  rw [if_neg (by omega), if_pos (srl_mem.1 (List.getElem_mem hi)), (srl_nodup l).idxOf_getElem i hi]

theorem lm_pack {l : List Int} {L : Nat} (h2 : 2 ≤ (us l).length) : hls (us l).length (ct (sel (lws l) L (2 * (us l).length - 2))) = (srl l).map fun s => (lm l L s : Int) := by
  apply List.ext_getElem
  · simp [hls, srl_len]
  · intro i h1 h3
    rw [List.length_map] at h3
    simp only [hls, List.getElem_map, List.getElem_range]
    rw [lm_at h2 h3]
end Go.Proofs.Ytdfggdafflkkcaa

