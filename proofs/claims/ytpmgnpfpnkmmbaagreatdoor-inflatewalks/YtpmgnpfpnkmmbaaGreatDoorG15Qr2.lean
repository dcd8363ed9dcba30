import Derived.Test.YtpmgnpfpnkmmbaaGreatDoorG14Ifh
import Derived.Test.YtpmgnpfpnkmmbaaGreatDoorG06Dcd
import Derived.Test.YtpmgnpfpnkmmbaaGreatDoorG07Rw2
namespace Go.Proofs.YtpmgnpfpnkmmbaaGreatDoor
open Go.RowKit Go.Maps
set_option maxRecDepth 20000
set_option linter.unusedVariables false

theorem tr_le {C row : List Int} (p : Nat) : p ≤ trP C row p := by
  unfold trP nxP
  split <;> omega

theorem rl_le {C row : List Int} (want : Nat) : ∀ f acc p, p ≤ (rl C row want f acc p).2.2
  | 0, acc, p => by simp [rl]
  | f + 1, acc, p => by
    unfold rl
    by_cases c0 : acc.length < want
    · rw [if_pos c0]
      by_cases c1 : trE C row p ≠ 0
      · rw [if_pos c1]; exact Nat.le_refl _
      · rw [if_neg c1]
        by_cases c2 : nxS C row p = 16 ∧ acc = []
        · rw [if_pos c2]; exact Nat.le_refl _
        · rw [if_neg c2]
          by_cases c3 : (want : Int) < acc.length + trC C row p
          · rw [if_pos c3]; exact Nat.le_refl _
          · rw [if_neg c3]
            exact Nat.le_trans (tr_le p) (rl_le want f _ _)
    · rw [if_neg c0]; exact Nat.le_refl _

/-- A header takes some bits. -/
theorem rd_le {row : List Int} {p : Nat} (h : (rdA row p).1 = 0) : p ≤ (rdA row p).2.2.2 := by
  rcases rd_cases row p with ⟨q, _⟩ | ⟨_, h1, h2, ⟨a, q⟩, hx, hk, hr⟩
  · exact absurd h q
  simp only at hx hk hr
  have := rl_le (C := smC row (p + 14) (rcN row p)) (row := row) (rcL row p + rcD row p) (rcL row p + rcD row p) [] (p + 14 + 3 * rcN row p)
  rw [hx] at this
  rw [hr]
  simp only at this ⊢
  omega

/-- A symbol goes on. -/
theorem sy1_go {l d row : List Int} {L p : Nat} {out : List Int} {b : Bool} {q : Nat} {o : List Int} (hb : Bit row) (hl : dcE l = 0) (h : sy1 l d row L p out = (0, b, q, o)) : p < q ∧ q ≤ row.length ∧ out.length ≤ o.length ∧ o.length ≤ max L out.length := by
  by_cases c0 : syE l row p ≠ 0
  · rw [sy1_bad c0] at h
    injection h with h
    exact absurd h c0
  have c0' : syE l row p = 0 := by omega
  obtain ⟨n1, n2, n3⟩ := nx_lt hl (sy_nx c0')
  rcases Nat.lt_trichotomy (nxS l row p) 256 with c | c | c
  · rw [sy1_lit c0' c] at h
    by_cases c1 : L < out.length + 1
    · rw [if_pos c1] at h; injection h with h; cases h
    · rw [if_neg c1] at h
      injection h with _ h
      injection h with _ h
      injection h with h1 h2
      subst h1; subst h2
      simp
      omega
  · rw [sy1_end c0' c] at h
    injection h with _ h
    injection h with _ h
    injection h with h1 h2
    subst h1; subst h2
    omega
  · rw [sy1_copy c0' c] at h
    by_cases c1 : lgE (nxS l row p) row (nxP l row p) ≠ 0
    · rw [if_pos c1] at h; injection h with h; exact absurd h c1
    rw [if_neg c1] at h
    by_cases c2 : dtE d row (lgP (nxS l row p) (nxP l row p)) ≠ 0
    · rw [if_pos c2] at h; injection h with h; exact absurd h c2
    rw [if_neg c2] at h
    have hd := dtV_le hb (by omega : dtE d row (lgP (nxS l row p) (nxP l row p)) = 0)
    by_cases c3 : agE L out (lgV (nxS l row p) row (nxP l row p)) (dtV d row (lgP (nxS l row p) (nxP l row p))) ≠ 0
    · rw [if_pos c3] at h; injection h with h; exact absurd h c3
    rw [if_neg c3] at h
    injection h with _ h
    injection h with _ h
    injection h with h1 h2
    subst h1; subst h2
    have hg : nxP l row p ≤ lgP (nxS l row p) (nxP l row p) := by unfold lgP; omega
    have ha : out.length + lgV (nxS l row p) row (nxP l row p) ≤ L := by
      unfold agE at c3
      by_cases d1 : out.length < dtV d row (lgP (nxS l row p) (nxP l row p))
      · rw [if_pos d1] at c3; omega
      · rw [if_neg d1] at c3
        by_cases d2 : L < out.length + lgV (nxS l row p) row (nxP l row p)
        · rw [if_pos d2] at c3; omega
        · omega
    rw [cpy_len]
    omega

theorem Sys.lt {l d row : List Int} {L p : Nat} {out : List Int} {e : Int} {q : Nat} {o : List Int} (hb : Bit row) (hl : dcE l = 0) (h : Sys l d row L p out e q o) : (e = 0 → p < q ∧ q ≤ row.length ∧ out.length ≤ o.length ∧ o.length ≤ max L out.length) := by
  induction h with
  | bad h1 h2 => exact fun h => absurd h h2
  | fin h1 => exact fun _ => sy1_go hb hl h1
  | go h1 h2 ih =>
    intro he
    have a := sy1_go hb hl h1
    have b := ih he
    omega

theorem st1_lt {row : List Int} {L p : Nat} {out : List Int} {q : Nat} {o : List Int} (hb : Bit row) (h : st1 row L p out = (0, q, o)) : p < q ∧ q ≤ row.length ∧ out.length ≤ o.length ∧ o.length ≤ max L out.length := by
  unfold st1 at h
  by_cases c0 : row.length < algn p + 32
  · rw [if_pos c0] at h; injection h with h; cases h
  rw [if_neg c0] at h
  by_cases c1 : ahead row (algn p) 16 + ahead row (algn p + 16) 16 ≠ 65535
  · rw [if_pos c1] at h; injection h with h; cases h
  rw [if_neg c1] at h
  by_cases c2 : L < out.length + (ahead row (algn p) 16).toNat
  · rw [if_pos c2] at h; injection h with h; cases h
  rw [if_neg c2] at h
  by_cases c3 : row.length < algn p + 32 + 8 * (ahead row (algn p) 16).toNat
  · rw [if_pos c3] at h; injection h with h; cases h
  rw [if_neg c3] at h
  injection h with _ h
  injection h with h1 h2
  subst h1; subst h2
  have h3 : p ≤ algn p := by unfold algn; omega
  have h4 : (pack ((row.drop (algn p + 32)).take (8 * (ahead row (algn p) 16).toNat))).length = (ahead row (algn p) 16).toNat := by
    rw [length_pack ((hb.drop _).take _), List.length_take, List.length_drop]; omega
  rw [List.length_append, h4]
  omega

theorem Blk.lt {row : List Int} {L p : Nat} {out : List Int} {f : Bool} {k : Int} {q : Nat} {o : List Int} {e : Int} (hb : Bit row) (h : Blk row L p out e f k q o) (he : e = 0) : p < q ∧ q ≤ row.length ∧ out.length ≤ o.length ∧ o.length ≤ max L out.length := by
  cases h with
  | short h1 => cases he
  | three h1 h2 => cases he
  | stored h1 h2 h3 => subst he; have := st1_lt hb h3; omega
  | fixed h1 h2 h3 => have := h3.lt hb fl_ok he; omega
  | head h1 h2 h3 => exact absurd he h3
  | dyn h1 h2 h3 h4 =>
    have := h4.lt hb (rd_good hb h3).1 he
    have := rd_le h3
    omega
end Go.Proofs.YtpmgnpfpnkmmbaaGreatDoor

namespace Go.Proofs.YtpmgnpfpnkmmbaaGreatDoor
open Go.RowKit Go.Maps
set_option maxRecDepth 20000

end Go.Proofs.YtpmgnpfpnkmmbaaGreatDoor

namespace Go.Proofs.YtpmgnpfpnkmmbaaGreatDoor
open Go.RowKit Go.Maps
set_option maxRecDepth 20000

def rawE (row l : List Int) : Int := if 268435456 < row.length + 8 * l.length then 1 else if row.length % 8 ≠ 0 then 31 else 0
def rawRow (row l : List Int) : List Int := if 268435456 < row.length + 8 * l.length then row else if row.length % 8 ≠ 0 then row else row ++ unpack l

theorem SB.safe {w : World} {u : Value} {l : List Int} (h : SB w u l) {K : Nat → Nat} (hk : ∀ k, u.ownBlock = some k → k < w.heap.size → K k = 0) : ∀ wr K1, Fr K K1 w wr → SB wr u l :=
  fun wr K1 hF => h.move fun a x ha hb => by
    have hl := World.block_lt_of_cell? w a ha
    rw [World.cell?_of_block (w := w) (hF.block a.block hl (hk _ hb hl))]
    exact ha

theorem SB.len {w : World} {u : Value} {l : List Int} (h : SB w u l) : ∃ a c, u = .slice a l.length c := by
  obtain ⟨a, c, h, _⟩ := h
  exact ⟨a, c, h⟩

def joinE (row x : List Int) : Int := if 268435456 < row.length + x.length then 1 else 0
def joinRow (row x : List Int) : List Int := if 268435456 < row.length + x.length then row else row ++ x

theorem lies_join {row x d : List Int} {r : Int} {h : Nat} (L : Lies x d r h) : row ++ unpack d ++ bts r h = row ++ x := by
  rw [L.e, List.append_assoc]

theorem OB.sb_stays {w wr : World} {g q : Nat} {v v1 : Value} {d : List Int} {n1 : Nat} (h : OB w 0 v d) (hn : v.ownBlock ≠ some g) (hS : Stays g (w.drewN q) wr v d.length v1 n1) : SB wr v d := by
  obtain ⟨ao, cap, he, q1, q2, q3, q4⟩ := h.sb
  refine ⟨ao, cap, he, q1, q2, q3, fun x hx i hi => ?_⟩
  have hlt := fun k hk => (h.lt k hk).2
  have hget := fun b hb => h.get (b := b) hb hi
  rcases h.2 with ⟨rfl, h0⟩ | ⟨gb, c, cur, rfl, _⟩
  · omega
  · simp only [Value.slice.injEq] at he
    obtain ⟨rfl, -, -⟩ := he
    cases hx
    rw [Addr.add_lit, Nat.zero_add]
    rw [hS.c gb i (hlt gb rfl) (fun e => hn (by rw [← e]; rfl)) (fun _ => hi)]
    exact hget gb rfl

end Go.Proofs.YtpmgnpfpnkmmbaaGreatDoor

namespace Go.Proofs.YtpmgnpfpnkmmbaaGreatDoor
open Go.RowKit Go.Maps
set_option maxRecDepth 20000

end Go.Proofs.YtpmgnpfpnkmmbaaGreatDoor

namespace Go.Proofs.YtpmgnpfpnkmmbaaGreatDoor
open Go.RowKit Go.Maps
set_option maxRecDepth 20000

/-- One byte more behind the row of an object. -/
theorem WV.snoc {T : Nat} {rest : List Value} {w W w6 : World} {K : Nat → Nat} {g : Nat} {v v' : Value} {d : List Int} {q : Int} {o : Obj} (h : WV T rest w K g v d) (hW : W.heap = (w.alloc o).heap) (h1 : W.os = w.os) (h2 : W.tape = w.tape) (h3 : W.output = w.output) (ho : OB w6 0 v' (d ++ [q])) (hg : Grew W w6 v v') :
    ∃ K', WV T rest (w6.setCell ⟨g, 0, none⟩ v') K' g v' (d ++ [q]) ∧ Fr K K' w (w6.setCell ⟨g, 0, none⟩ v') := by
  have hgr : w.grownBy W v.ownBlock := ⟨h1, h2, h3, by rw [hW, size_alloc']; omega, fun k hk _ => by rw [hW]; exact Below.heap_alloc _ _ k hk⟩
  refine h.put (hgr.trans hg.by) ho ?_
  rcases hg.at with e | e
  · exact .inr (fun k hk => by rw [e, hW, size_alloc'] at hk; cases hk; omega)
  · exact .inl e

/-- What the append's step wants, for a block of one byte. -/
theorem WV.alloc1 {T : Nat} {rest : List Value} {w : World} {K : Nat → Nat} {g : Nat} {v : Value} {d : List Int} (h : WV T rest w K g v d) (q : Int) :
    (w.alloc (.cells #[.int .u8 q] 5)).cell? ⟨g, 0, none⟩ = some v ∧ (∀ W : World, W.heap = (w.alloc (.cells #[.int .u8 q] 5)).heap → OB W 0 v d) ∧
    (∀ W : World, W.heap = (w.alloc (.cells #[.int .u8 q] 5)).heap → Src Tryz.prog 1 22 (.slice (some ⟨w.heap.size, 0, none⟩) 1 1) ([q] : List Int).length (([q] : List Int).map (Value.int .u8)) W) ∧
    (∀ (W w6 : World) (u : Value), W.heap = (w.alloc (.cells #[.int .u8 q] 5)).heap → Grew W w6 v u → w6.cell? ⟨g, 0, none⟩ = some v ∧ w6.frozen? ⟨g, 0, none⟩ = false) := by
  have hgl := h.lt
  refine ⟨?_, fun W hW => OB.move (w := w) h.o fun x hx => by rw [hW]; exact Below.heap_alloc _ _ x (h.o.lt x hx).2, fun W hW => ((built_sb w [q] (by unfold maxLen; simp)).heap hW).src, fun W w6 u hW hg => ?_⟩
  · rw [((Below.refl w.heap.size w).alloc (Nat.le_refl _) _).cell hgl]; exact h.cell 0
  · have e1 : w6.heap[g]? = w.heap[g]? := (hg.by.block g (by rw [hW, size_alloc']; omega) (fun e => h.ng e.symm)).trans (by rw [hW]; exact Below.heap_alloc _ _ g hgl)
    have e2 := e1.trans h.s
    exact ⟨by simp [World.cell?, e2], by simp [World.frozen?, e2]⟩

/-- The document's reader. -/
def Rq (w : World) (K : Nat → Nat) (g : Nat) (row : List Int) (p : Nat) : Prop := ∃ v, WV 86 [.int .i64 p] w K g v row ∧ Bit row ∧ p ≤ row.length ∧ row.length ≤ 268435456 ∧ row.length % 8 = 0

theorem Rq.far {w w' : World} {K : Nat → Nat} {g : Nat} {row : List Int} {p : Nat} (h : Rq w K g row p) (hsz : w.heap.size ≤ w'.heap.size) (hb : ∀ k, K k ≠ 0 → w'.heap[k]? = w.heap[k]?) : Rq w' K g row p := by
  obtain ⟨v, h1, h2⟩ := h
  exact ⟨v, h1.far hsz hb, h2⟩

theorem Rq.drewN {w : World} {K : Nat → Nat} {g : Nat} {row : List Int} {p : Nat} (h : Rq w K g row p) (n : Nat) : Rq (w.drewN n) K g row p := h.far (Nat.le_refl _) (fun _ _ => rfl)

theorem Rq.sup {w : World} {K : Nat → Nat} {g : Nat} {row : List Int} {p : Nat} (h : Rq w K g row p) : ∀ k, K k ≠ 0 → k < w.heap.size := by
  obtain ⟨_, h, _⟩ := h
  exact h.sup

theorem Rq.move {w : World} {K : Nat → Nat} {g : Nat} {row : List Int} {p : Nat} (h : Rq w K g row p) (q : Nat) (x : Int) (hx : x = q) (hq : q ≤ row.length) : Rq (w.setCell ⟨g, 1, none⟩ (.int .i64 x)) K g row q ∧ Fr K K w (w.setCell ⟨g, 1, none⟩ (.int .i64 x)) := by
  subst hx
  obtain ⟨v, h1, h2, h3, h4⟩ := h
  obtain ⟨a1, a2⟩ := h1.set 0 (.int .i64 q)
  exact ⟨⟨v, a1, h2, hq, h4⟩, a2⟩

theorem qat_any {w : World} {K : Nat → Nat} {g : Nat} {row : List Int} {p : Nat} (h : Rq w K g row p) :
    Calls Tryz.prog 54 #[.pointer (some ⟨g, 0, none⟩)] w fun e w' => e = .returned (.int .i64 p) ∧ w' = w := by
  obtain ⟨v, h1, -⟩ := h
  have c1 : w.cell? ⟨g, 1, none⟩ = some (.int .i64 p) := h1.cell 1
  clear h1
  go_enter Tryz.func54, Tryz.ntmps54
  go_wp2
  go_ret
  exact ⟨rfl, rfl⟩

theorem qleft_any {w : World} {K : Nat → Nat} {g : Nat} {row : List Int} {p : Nat} (h : Rq w K g row p) :
    Calls Tryz.prog 76 #[.pointer (some ⟨g, 0, none⟩)] w fun e w' => e = .returned (.int .i64 ((row.length : Int) - p)) ∧ ∃ n, w' = w.drewN n := by
  obtain ⟨v, h1, h2, h3, h4, h5⟩ := h
  have c0 : w.cell? ⟨g, 0, none⟩ = some v := h1.cell 0
  have c1 : w.cell? ⟨g, 1, none⟩ = some (.int .i64 p) := h1.cell 1
  obtain ⟨a, c, rfl⟩ := h1.o.shape
  clear h1 h2 h5
  go_enter Tryz.func76, Tryz.ntmps76
  go_wp2
  go_quiet (fail)
  go_wp2
  go_ret
  exact ⟨rfl, _, rfl⟩

theorem qskip_any {w : World} {K : Nat → Nat} {g : Nat} {row : List Int} {p : Nat} (h : Rq w K g row p) (n : Int) :
    Calls Tryz.prog 110 #[.pointer (some ⟨g, 0, none⟩), .int .i64 n] w fun e w' => e = .returned (.int .i64 (skipE row p n)) ∧ Rq w' K g row (skipP row p n) ∧ Fr K K w w' := by
  have H := hide h
  obtain ⟨v, h1, h2, h3, h4, h5⟩ := h
  have c0 : w.cell? ⟨g, 0, none⟩ = some v := h1.cell 0
  have c1 : w.cell? ⟨g, 1, none⟩ = some (.int .i64 p) := h1.cell 1
  have cf : w.frozen? ⟨g, 1, none⟩ = false := h1.free 1
  obtain ⟨a, c, rfl⟩ := h1.o.shape
  clear h1 h2 h5
  by_cases hn : n < 0
  · have HE : Hid (skipE row p n = 1 ∧ skipP row p n = p) := ⟨if_pos hn, if_pos hn⟩
    go_enter Tryz.func110, Tryz.ntmps110
    go_wp2
    go_ret
    rw [HE.out.1, HE.out.2]
    exact ⟨rfl, H.out, Fr.refl _ _⟩
  by_cases hl : n ≤ (row.length : Int) - p
  · have HE : Hid (skipE row p n = 0 ∧ skipP row p n = p + n.toNat) := ⟨by show (if _ then _ else _) = _; rw [if_neg hn, if_pos hl], by show (if _ then _ else _) = _; rw [if_neg hn, if_pos hl]⟩
    obtain ⟨m, rfl⟩ : ∃ m : Nat, n = m := ⟨n.toNat, by omega⟩
    have HM : Hid (∀ q, Rq ((w.drewN q).setCell ⟨g, 1, none⟩ (.int .i64 ((p : Int) + m))) K g row (p + m) ∧ Fr K K w ((w.drewN q).setCell ⟨g, 1, none⟩ (.int .i64 ((p : Int) + m)))) := fun q => by
      obtain ⟨a1, a2⟩ := (H.out.drewN q).move (p + m) ((p : Int) + m) (by omega) (by omega)
      exact ⟨a1, ((Fr.refl _ _).drewN q).trans a2⟩
    go_enter Tryz.func110, Tryz.ntmps110
    go_wp2
    go_quiet (fail)
    go_wp2
    go_ret
    rw [HE.out.1, HE.out.2]
    exact ⟨rfl, HM.out _⟩
  · have HE : Hid (skipE row p n = 30 ∧ skipP row p n = p) := ⟨by show (if _ then _ else _) = _; rw [if_neg hn, if_neg hl], by show (if _ then _ else _) = _; rw [if_neg hn, if_neg hl]⟩
    go_enter Tryz.func110, Tryz.ntmps110
    go_wp2
    go_quiet (fail)
    go_wp2
    go_ret
    rw [HE.out.1, HE.out.2]
    exact ⟨rfl, H.out.drewN _, (Fr.refl _ _).drewN _⟩

theorem qalign_any {w : World} {K : Nat → Nat} {g : Nat} {row : List Int} {p : Nat} (h : Rq w K g row p) :
    Calls Tryz.prog 75 #[.pointer (some ⟨g, 0, none⟩)] w fun e w' => e = .returned (.tuple #[]) ∧ Rq w' K g row (algn p) ∧ Fr K K w w' := by
  have H := hide h
  obtain ⟨v, h1, h2, h3, h4, h5⟩ := h
  clear h1 h2
  go_enter Tryz.func75, Tryz.ntmps75
  go_wp2
  go_loopw [] (fun wr => ∃ q : Nat, p ≤ q ∧ q ≤ algn p ∧ Hid (Rq wr K g row q ∧ Fr K K w wr)) (fun wr => algn p - (intOf ((wr.cell? ⟨g, 1, none⟩).getD undef)).toNat)
  case atStart => exact ⟨p, Nat.le_refl _, by unfold algn; omega, H.out, Fr.refl _ _⟩
  case round =>
    obtain ⟨q, hq1, hq2, HQ⟩ := hrel
    obtain ⟨v', k1, -⟩ := HQ.out.1
    have c1 : wr.cell? ⟨g, 1, none⟩ = some (.int .i64 q) := k1.cell 1
    have cf : wr.frozen? ⟨g, 1, none⟩ = false := k1.free 1
    clear k1
    have hal : algn p ≤ row.length := by unfold algn; omega
    have hqa : algn p = algn q := by unfold algn at *; omega
    by_cases h8 : q % 8 = 0
    · have h8' : (q : Int) % 8 = 0 := by omega
      have HE : Hid (algn p = q) := by show _ = _; unfold algn at *; omega
      clear hqa
      go_wp2
      (try simp only [Exit.inBlock, Exit.then]); refine bodyPost_end (results_none rfl _ _ _) rfl ?_
      rw [HE.out]
      exact ⟨rfl, HQ.out⟩
    · have h8' : ((q : Int) % 8 == 0) = false := by simp; omega
      have h8b : ((q : Int) % 8 != 0) = true := by simp; omega
      have hlt : q < algn p := by unfold algn at *; omega
      have HM := hide (HQ.out.1.move (q + 1) ((q : Int) + 1) (by omega) (by omega))
      have HMS : Hid (algn p - (intOf (((wr.setCell ⟨g, 1, none⟩ (.int .i64 ((q : Int) + 1))).cell? ⟨g, 1, none⟩).getD undef)).toNat < algn p - (intOf ((wr.cell? ⟨g, 1, none⟩).getD undef)).toNat) := by
        obtain ⟨v2, z1, -⟩ := HM.out.1
        have z2 : (wr.setCell ⟨g, 1, none⟩ (.int .i64 ((q : Int) + 1))).cell? ⟨g, 1, none⟩ = some (.int .i64 ((q + 1 : Nat) : Int)) := z1.cell 1
        show _ < _
        rw [z2, c1]
        simp [intOf]
        omega
      clear hqa
      go_wp2
      go_roundw
      case rel => exact ⟨q + 1, by omega, by omega, HM.out.1, HQ.out.2.trans HM.out.2⟩
      case measure => exact HMS.out
end Go.Proofs.YtpmgnpfpnkmmbaaGreatDoor

namespace Go.Proofs.YtpmgnpfpnkmmbaaGreatDoor
open Go.RowKit Go.Maps
set_option maxRecDepth 20000

theorem ahead_snoc {row : List Int} {p i : Nat} (h : p + i < row.length) : ahead row p (i + 1) = ahead row p i + row.getD (p + i) 0 * 2 ^ i := by
  unfold ahead
  have hl : i < (row.drop p).length := by rw [List.length_drop]; omega
  rw [List.take_succ_eq_append_getElem hl, val_append, List.length_take, Nat.min_eq_left (by omega)]
  have e : (row.drop p)[i] = row.getD (p + i) 0 := by
    rw [List.getElem_drop]
    simp [List.getD, h]
  rw [e]
  simp only [val]
  rw [Int.mul_comm]
  simp

set_option maxHeartbeats 1000000 in
theorem qpeek_any {w : World} {K : Nat → Nat} {g : Nat} {row : List Int} {p : Nat} (h : Rq w K g row p) (n : Int) :
    Calls Tryz.prog 74 #[.pointer (some ⟨g, 0, none⟩), .int .i64 n] w fun e w' => e = .returned (.tuple #[.int .u32 (peekV row p n), .int .i64 (peekK row p n)]) ∧ ∃ q, w' = w.drewN q := by
  obtain ⟨v, h1, h2, h3, h4, h5⟩ := h
  have c0 : ∀ q, (w.drewN q).cell? ⟨g, 0, none⟩ = some v := fun q => h1.cell 0
  have c1 : ∀ q, (w.drewN q).cell? ⟨g, 1, none⟩ = some (.int .i64 p) := fun q => h1.cell 1
  have HOB := hide h1.o
  have HBT := hide h2
  obtain ⟨a, c, rfl⟩ := h1.o.shape
  obtain ⟨hcc, hcm⟩ := h1.o.sb.cap
  clear h1 h2 h5
  by_cases hc : Cnt n
  case neg =>
    have HE : Hid (peekV row p n = 0 ∧ peekK row p n = 0) := ⟨if_neg hc, if_neg hc⟩
    by_cases h0 : n < 0
    · clear hc
      go_enter Tryz.func74, Tryz.ntmps74
      go_wp2
      go_ret2
      rw [HE.out.1, HE.out.2]
      exact ⟨rfl, 0, rfl⟩
    · have h32 : 32 < n := by unfold Cnt at hc; omega
      clear hc
      go_enter Tryz.func74, Tryz.ntmps74
      go_wp2
      go_ret2
      rw [HE.out.1, HE.out.2]
      exact ⟨rfl, 0, rfl⟩
  case pos =>
    have HE : Hid (peekV row p n = ahead row p n.toNat ∧ peekK row p n = min n ((row.length : Int) - p)) := ⟨if_pos hc, if_pos hc⟩
    obtain ⟨n0, n1⟩ := hc
    obtain ⟨m, rfl⟩ : ∃ m : Nat, n = m := ⟨n.toNat, by omega⟩
    go_enter Tryz.func74, Tryz.ntmps74
    go_wp2
    go_loopw [6, 7, 8] (fun x kk i wr => ∃ j q : Nat, j ≤ m ∧ p + j ≤ row.length ∧ i = .int .i64 j ∧ kk = .int .i64 j ∧ x = .int .u32 (ahead row p j) ∧ wr = w.drewN q) (fun _ _ i _ => m - (intOf i).toNat)
    case atStart => exact ⟨0, 0, Nat.zero_le _, by omega, rfl, rfl, by simp [ahead, val], rfl⟩
    case round =>
      obtain ⟨j, q, hj, hpj, rfl, rfl, rfl, rfl⟩ := hrel
      have k0 := c0 q
      have k1 := c1 q
      have hab := ahead_bound HBT.out p j
      obtain ⟨A, HA⟩ : ∃ A, Hid (A = ahead row p j) := ⟨_, rfl⟩
      rw [← HA.out] at hab ⊢
      have h232 : (2 : Int) ^ j ≤ 2 ^ 32 := pow_le (by omega)
      by_cases hjm : j < m
      · have hjm' : (j : Int) < (m : Int) := by omega
        have hdg : decide ((j : Int) < (m : Int)) = true := decide_eq_true hjm'
        by_cases hpl : p + j < row.length
        · have hpl' : (p : Int) + j < (row.length : Int) := by omega
          obtain ⟨b, hb⟩ : ∃ b, a = some ⟨b, 0, none⟩ := by
            rcases HOB.out.2 with ⟨e, h0⟩ | ⟨gb, c', cur, e, _⟩
            · omega
            · simp only [Value.slice.injEq] at e
              exact ⟨gb, e.1⟩
          subst hb
          obtain ⟨y, HY⟩ : ∃ y, Hid (y = row.getD (p + j) 0) := ⟨_, rfl⟩
          have hy : (w.drewN q).cell? ⟨b, p + j, none⟩ = some (.int .u8 y) := by rw [HY.out]; exact HOB.out.get rfl hpl
          have hyb : y = 0 ∨ y = 1 := by
            rw [HY.out]
            have : row.getD (p + j) 0 = row[p + j] := by simp [List.getD, hpl]
            rw [this]
            exact HBT.out _ (List.getElem_mem _)
          have HS := hide (ahead_snoc hpl)
          rw [← HA.out, ← HY.out] at HS
          have h231 : (2 : Int) ^ j ≤ 2 ^ 31 := pow_le (by omega)
          have hpp := pow_pos j
          have hz : 0 ≤ y * 2 ^ j ∧ y * 2 ^ j ≤ 2 ^ j := by rcases hyb with e | e <;> rw [e] <;> omega
          have hw1 : IntKind.u32.wrap (y * 2 ^ j) = y * 2 ^ j := by rw [IntKind.wrap_u32]; omega
          have hw2 : IntKind.u32.wrap (A + y * 2 ^ j) = A + y * 2 ^ j := by rw [IntKind.wrap_u32]; omega
          have hy0 : 0 ≤ y := by omega
          have hy1 : y ≤ 1 := by omega
          have hp0 : (0 : Int) ≤ (p : Int) + j := by omega
          have htn : ((p : Int) + j).toNat = p + j := by omega
          have hwp : IntKind.i64.wrap ((p : Int) + j) = (p : Int) + j := by rw [IntKind.wrap_i64]; omega
          clear hab h232 h231 hpp hz hyb
          go_wp2
          go_quiet (fail)
          go_wp2
          rw [World.drewN_drewN]
          generalize q + _ = q' at *
          have k0 := c0 q'
          have k1 := c1 q'
          have hy1 : (w.drewN q').cell? ⟨b, p + j, none⟩ = some (.int .u8 y) := hy
          have hy2 : w.cell? ⟨b, p + j, none⟩ = some (.int .u8 y) := hy
          have hy3 : ∀ n, ((w.drewN q').drewN n).cell? ⟨b, p + j, none⟩ = some (.int .u8 y) := fun n => hy
          go_quiet (fail)
          go_wp2
          go_roundw
          case rel => exact ⟨j + 1, _, by omega, by omega, by go_num, by go_num, by rw [HS.out], by (try simp only [World.drewN_drewN]); rfl⟩
          case measure => simp [intOf]; omega
        · have hpl' : ¬ (p : Int) + j < (row.length : Int) := by omega
          have hpd : decide ((p : Int) + j < (row.length : Int)) = false := decide_eq_false hpl'
          have hjL : (j : Int) = (row.length : Int) - p := by omega
          have HJ : Hid (ahead row p m = A) := by
            show _ = _
            rw [HA.out]
            unfold ahead
            rw [List.take_of_length_le (by rw [List.length_drop]; omega), List.take_of_length_le (by rw [List.length_drop]; omega)]
          have HMn : Hid (min (m : Int) ((row.length : Int) - p) = (j : Int)) := by show _ = _; omega
          clear hjL hab h232
          go_wp2
          go_quiet (fail)
          go_wp2
          go_ret2
          refine ⟨?_, _, by (try simp only [World.drewN_drewN]); rfl⟩
          rw [HE.out.1, HE.out.2, HMn.out, Int.toNat_natCast, HJ.out]
          rfl
      · obtain rfl : j = m := by omega
        have hjm' : ¬ (j : Int) < (j : Int) := by omega
        have hdg : decide ((j : Int) < (j : Int)) = false := decide_eq_false hjm'
        have HMn : Hid (min (j : Int) ((row.length : Int) - p) = (j : Int)) := by show _ = _; omega
        clear hab h232
        go_wp2
        go_quiet (fail)
        go_wp2
        go_ret2
        refine ⟨?_, _, by (try simp only [World.drewN_drewN]); rfl⟩
        rw [HE.out.1, HE.out.2, HMn.out, Int.toNat_natCast, ← HA.out]
        rfl

theorem qtake_any {w : World} {K : Nat → Nat} {g : Nat} {row : List Int} {p : Nat} (h : Rq w K g row p) (n : Int) :
    Calls Tryz.prog 55 #[.pointer (some ⟨g, 0, none⟩), .int .i64 n] w fun e w' => e = .returned (.tuple #[.int .u32 (takeV row p n), .int .i64 (takeE row p n)]) ∧ Rq w' K g row (takeP row p n) ∧ Fr K K w w' := by
  have H := hide h
  obtain ⟨v, h1, h2, h3, h4, h5⟩ := h
  have c0 : ∀ q, (w.drewN q).cell? ⟨g, 0, none⟩ = some v := fun q => h1.cell 0
  have c1 : ∀ q, (w.drewN q).cell? ⟨g, 1, none⟩ = some (.int .i64 p) := fun q => h1.cell 1
  have c0' : w.cell? ⟨g, 0, none⟩ = some v := h1.cell 0
  have c1' : w.cell? ⟨g, 1, none⟩ = some (.int .i64 p) := h1.cell 1
  have cf : ∀ q, (w.drewN q).frozen? ⟨g, 1, none⟩ = false := fun q => h1.free 1
  obtain ⟨a, c, rfl⟩ := h1.o.shape
  clear h1 h2 h5
  by_cases hc : Cnt n
  case neg =>
    have HE : Hid (takeE row p n = 1 ∧ takeV row p n = 0 ∧ takeP row p n = p) := ⟨if_neg hc, if_neg fun h => hc h.1, if_neg fun h => hc h.1⟩
    by_cases h0 : n < 0
    · clear hc c0 c1 cf
      go_enter Tryz.func55, Tryz.ntmps55
      go_wp2
      go_ret2
      rw [HE.out.1, HE.out.2.1, HE.out.2.2]
      exact ⟨rfl, H.out, Fr.refl _ _⟩
    · have h32 : 32 < n := by unfold Cnt at hc; omega
      clear hc c0 c1 cf
      go_enter Tryz.func55, Tryz.ntmps55
      go_wp2
      go_ret2
      rw [HE.out.1, HE.out.2.1, HE.out.2.2]
      exact ⟨rfl, H.out, Fr.refl _ _⟩
  case pos =>
  have HC := hide hc
  obtain ⟨n0, n1⟩ := id hc
  by_cases hl : n ≤ (row.length : Int) - p
  case neg =>
    have HE : Hid (takeE row p n = 30 ∧ takeV row p n = 0 ∧ takeP row p n = p) := ⟨by show (if _ then _ else _) = _; rw [if_pos hc, if_neg hl], if_neg fun h => hl h.2, if_neg fun h => hl h.2⟩
    clear hc c0 c1 cf
    go_enter Tryz.func55, Tryz.ntmps55
    go_wp2
    go_quiet (fail)
    go_wp2
    go_ret2
    rw [HE.out.1, HE.out.2.1, HE.out.2.2]
    exact ⟨rfl, H.out.drewN _, (Fr.refl _ _).drewN _⟩
  case pos =>
    have HE : Hid (takeE row p n = 0 ∧ takeV row p n = peekV row p n ∧ takeP row p n = p + n.toNat) := ⟨by show (if _ then _ else _) = _; rw [if_pos hc, if_pos hl], (if_pos (show takeOk row p n from ⟨hc, hl⟩)).trans (if_pos hc).symm, if_pos ⟨hc, hl⟩⟩
    obtain ⟨m, rfl⟩ : ∃ m : Nat, n = m := ⟨n.toNat, by omega⟩
    have HM : Hid (∀ q, Rq ((w.drewN q).setCell ⟨g, 1, none⟩ (.int .i64 ((p : Int) + m))) K g row (p + m) ∧ Fr K K w ((w.drewN q).setCell ⟨g, 1, none⟩ (.int .i64 ((p : Int) + m)))) := fun q => by
      obtain ⟨a1, a2⟩ := (H.out.drewN q).move (p + m) ((p : Int) + m) (by omega) (by omega)
      exact ⟨a1, ((Fr.refl _ _).drewN q).trans a2⟩
    clear hc
    go_enter Tryz.func55, Tryz.ntmps55
    go_wp2
    go_quiet (fail)
    rename_i nq _
    go_wp2_with fail
    refine (qpeek_any (H.out.drewN nq) m).mono ?_
    rintro e w1 ⟨rfl, q2, rfl⟩
    (try rw [World.drewN_drewN])
    have k1 := c1 (nq + q2)
    have kf := cf (nq + q2)
    clear c0 c1 cf
    go_wp2
    go_ret2
    rw [HE.out.1, HE.out.2.1, HE.out.2.2]
    exact ⟨rfl, HM.out _⟩
end Go.Proofs.YtpmgnpfpnkmmbaaGreatDoor

