import Derived.Test.YtpbghgddeodabaaGWr4
namespace Go.Proofs.Ytpbghgddeodabaa
open Go.RowKit Go.Maps
set_option maxRecDepth 20000

def rawE (row l : List Int) : Int := if 268435456 < row.length + 8 * l.length then 1 else if row.length % 8 ≠ 0 then 31 else 0
def rawRow (row l : List Int) : List Int := if 268435456 < row.length + 8 * l.length then row else if row.length % 8 ≠ 0 then row else row ++ unpack l

theorem SB.safe {w : World} {u : Value} {l : List Int} (h : SB w u l) {K : Nat → Nat} (hk : ∀ k, u.ownBlock = some k → k < w.heap.size → K k = 0) : ∀ wr K1, Fr K K1 w wr → SB wr u l :=
  fun wr K1 hF => h.move fun a x ha hb => by
    have hl := World.block_lt_of_cell? w a ha
    rw [World.cell?_of_block (w := w) (hF.block a.block hl (hk _ hb hl))]
    exact ha

theorem SB.len {w : World} {u : Value} {l : List Int} (h : SB w u l) : ∃ a c, u = .slice a l.length c := by
  obtain ⟨a, c, h, _⟩ := h
  exact ⟨a, c, h⟩

theorem wraw_any {w : World} {K : Nat → Nat} {g : Nat} {row : List Int} (h : Wp w K g row) (u : Value) (l : List Int) (hB : Byt l) (HS : ∀ wr K1, Fr K K1 w wr → SB wr u l) :
    Calls Try.prog 21 #[.pointer (some ⟨g, 0, none⟩), u] w fun e w' => e = .returned (.int .i64 (rawE row l)) ∧ ∃ K', Wp w' K' g (rawRow row l) ∧ Fr K K' w w' := by
  have H := hide h
  have ht := h.top
  have HSB := hide HS
  have HBy := hide hB
  obtain ⟨ua, uc, rfl⟩ := (HS w K (Fr.refl _ _)).len
  clear h HS hB
  by_cases hr : 268435456 < row.length + 8 * l.length
  · have HE : Hid (rawE row l = 1 ∧ rawRow row l = row) := ⟨if_pos hr, if_pos hr⟩
    have hlt : (268435456 - (row.length : Int)) / 8 < l.length := by omega
    clear hr
    go_enter Try.func21, Try.ntmps21
    go_wp2_with fail
    refine (room_any H.out).mono ?_
    rintro e w1 ⟨rfl, q, rfl⟩
    go_wp2
    go_ret
    rw [HE.out.1, HE.out.2]
    exact ⟨rfl, K, H.out.drewN _, (Fr.refl _ _).drewN _⟩
  · have hlt : ¬ (268435456 - (row.length : Int)) / 8 < l.length := by omega
    obtain ⟨v, d, r, k, a1, a2, a3⟩ := H.out
    have hl := a2.len
    have hk8 := a2.h8
    have HA1 := hide a1
    have HA2 := hide a2
    have c2 : ∀ q, (w.drewN q).cell? ⟨g, 2, none⟩ = some (.int .i64 k) := fun q => a1.cell 2
    clear a1 a2
    by_cases h8 : row.length % 8 ≠ 0
    · have HE : Hid (rawE row l = 31 ∧ rawRow row l = row) := by
        unfold rawE rawRow
        rw [if_neg hr, if_neg hr, if_pos h8, if_pos h8]
        exact ⟨rfl, rfl⟩
      have hk0 : (0 : Int) < k := by omega
      clear hr h8
      go_enter Try.func21, Try.ntmps21
      go_wp2_with fail
      refine (room_any H.out).mono ?_
      rintro e w1 ⟨rfl, q, rfl⟩
      go_wp2
      go_ret
      rw [HE.out.1, HE.out.2]
      exact ⟨rfl, K, H.out.drewN _, (Fr.refl _ _).drewN _⟩
    · have HE : Hid (rawE row l = 0 ∧ rawRow row l = row ++ unpack l) := by
        unfold rawE rawRow
        rw [if_neg hr, if_neg hr, if_neg h8, if_neg h8]
        exact ⟨rfl, rfl⟩
      obtain rfl : k = 0 := by omega
      have HR : Hid (row.length + 8 * l.length ≤ 268435456) := by show _ ≤ _; omega
      clear hr h8
      go_enter Try.func21, Try.ntmps21
      go_wp2_with fail
      refine (room_any H.out).mono ?_
      rintro e w1 ⟨rfl, q, rfl⟩
      go_wp2_with fail
      refine (bytes_any (HA1.out.drewN q) HA2.out _ l HBy.out (fun wr K1 v1 n1 hF _ => HSB.out wr K1 (((Fr.refl _ _).drewN q).trans hF)) HR.out).mono ?_
      rintro e w2 ⟨rfl, K', v', d', r', h', b1, b2, b3⟩
      have HF : Hid (∃ K', Wp w2 K' g (rawRow row l) ∧ Fr K K' w w2) := by
        rw [HE.out.2]
        exact ⟨K', ⟨v', d', r', h', b1, b2, by rw [List.length_append, length_unpack]; exact HR.out⟩, ((Fr.refl _ _).drewN q).trans b3⟩
      clear b1 b2 b3
      go_wp2
      go_ret
      rw [HE.out.1]
      exact ⟨rfl, HF.out⟩

def joinE (row x : List Int) : Int := if 268435456 < row.length + x.length then 1 else 0
def joinRow (row x : List Int) : List Int := if 268435456 < row.length + x.length then row else row ++ x

theorem lies_join {row x d : List Int} {r : Int} {h : Nat} (L : Lies x d r h) : row ++ unpack d ++ bts r h = row ++ x := by
  rw [L.e, List.append_assoc]

theorem OB.sb_stays {w wr : World} {g q : Nat} {v v1 : Value} {d : List Int} {n1 : Nat} (h : OB w 0 v d) (hn : v.ownBlock ≠ some g) (hS : Stays g (w.drewN q) wr v d.length v1 n1) : SB wr v d := by
  obtain ⟨ao, cap, he, q1, q2, q3, q4⟩ := h.sb
  refine ⟨ao, cap, he, q1, q2, q3, fun x hx i hi => ?_⟩
  have hlt := fun k hk => (h.lt k hk).2
  have hget := fun b hb => h.get (b := b) hb hi
  rcases h.2 with ⟨rfl, h0⟩ | ⟨gb, c, cur, rfl, _⟩
  · omega
  · simp only [Value.slice.injEq] at he
    obtain ⟨rfl, -, -⟩ := he
    cases hx
    rw [Addr.add_lit, Nat.zero_add]
    rw [hS.c gb i (hlt gb rfl) (fun e => hn (by rw [← e]; rfl)) (fun _ => hi)]
    exact hget gb rfl

end Go.Proofs.Ytpbghgddeodabaa

