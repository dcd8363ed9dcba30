import Derived.Test.YthlbmpmbbdaboaaBase
namespace Go.Proofs.Ythlbmpmbbdaboaa
open Go.RowKit

theorem sizeByte : (Try.prog.info? 5).map (·.size) = some 1 := by kernel_rfl

theorem slicesClone_any (v : Value) (l : List Int) (w : World) (h : SB w v l) (hr : l.length ≤ 140737488351232) :
    Calls Try.prog 51 #[v] w fun e w' => ∃ a c, e = .returned (.slice a l.length c) ∧ OB w' w.heap.size (.slice a l.length c) l ∧ Below w.heap.size w w' := by
  obtain ⟨ao, cap, rfl, hlc, hcm, hnil, hcell⟩ := h
  obtain ⟨i0, hi, hz0, hz1, hz2⟩ := info_parts info5
  have he := fun (w : World) (a : Option Addr) (n c : Nat) => Lib.run_eql_slice_nil (P := Try.prog) w 73 5 a n c 0 0 Try.underlying73
  cases ao with
  | none =>
    obtain rfl : cap = 0 := hnil rfl
    obtain rfl : l = [] := List.eq_nil_of_length_eq_zero (by omega)
    go_enter Try.func51, Try.ntmps51
    go_wp2
    go_ret
    exact ⟨_, _, rfl, World.ownsRow_nil _ _ _ _, Below.refl _ _⟩
  | some x =>
    go_enter Try.func51, Try.ntmps51
    obtain ⟨cs, hcs⟩ : ∃ cs, cs = l.map (Value.int .u8) := ⟨_, rfl⟩
    have HS : Hid (cs = l.map (Value.int .u8)) := hcs
    clear hcs
    have O1 : Hid ((w.alloc (.cells #[] 5)).ownsRow w.heap.size 5 1 (.slice (some ⟨w.heap.size, 0, none⟩) 0 0) 0 []) := World.ownsRow_made w #[] 0 (Nat.le_refl _) (Nat.zero_le _) rfl
    have C1 : Hid (cs.length = l.length * 1) := by show _ = _; rw [HS.out]; simp
    have C2 : Hid (∀ j v, cs[j]? = some v → (w.alloc (.cells #[] 5)).cell? (x.add j) = some v) := by
      intro j u hj
      rw [HS.out] at hj
      obtain ⟨hjl, rfl⟩ := List.getElem?_eq_some_iff.1 hj
      have hjl' : j < l.length := by simpa using hjl
      have hc := hcell x rfl j hjl'
      rw [((Below.refl _ _).alloc (Nat.le_refl _) _).cell (by have := World.block_lt_of_cell? _ _ hc; exact this), hc]
      simp [hjl']
    have C4 : Hid (∀ v ∈ cs, v.oneCell' = true) := by rw [HS.out]; intro u hu; obtain ⟨n, _, rfl⟩ := List.mem_map.1 hu; rfl
    clear hcell hnil
    go_wp2_with (at_builtin; refine wpList_append_own _ rfl _ _ 73 rfl w.heap.size 5 i0 (.int .u8 0) 1 1 Try.underlying73 hi hz0 hz1 hz2 rfl (by decide) _ 0 [] rfl O1.out x l.length cap cs rfl C1.out C2.out C4.out (by unfold maxLen; omega) (by omega) (by simp) ?_)
    intro v' w1 hown hgrow _
    have HF : Hid (OB w1 w.heap.size v' l) := by
      have h := hown
      rw [HS.out] at h
      exact show OB _ _ _ _ by simpa [OB] using h
    have hb : Below w.heap.size w w1 := ((Below.refl _ _).alloc (Nat.le_refl _) _).grown hgrow (by simp) (fun k hk => by simp [Value.ownBlock] at hk; omega)
    clear hown hgrow
    go_wp2
    go_ret
    obtain ⟨a, c, hv⟩ := HF.out.shape
    rw [hv] at HF ⊢
    exact ⟨a, c, rfl, HF.out, hb⟩

def eqB (l1 l2 : List Int) : Bool := decide (l1 = l2)

end Go.Proofs.Ythlbmpmbbdaboaa
