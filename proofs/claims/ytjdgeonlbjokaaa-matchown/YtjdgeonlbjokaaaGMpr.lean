import Derived.Test.YtjdgeonlbjokaaaGTln
import Derived.Test.YtjdgeonlbjokaaaGBp
import Derived.Test.YtjdgeonlbjokaaaGOrx
import Derived.WideKeyEntry
import Derived.DeepKeys4
import Derived.MapViews
import Derived.Maps.OwnSet
namespace Go.Proofs.Ytjdgeonlbjokaaa
open Go.RowKit Go.Maps
open Go.ChangeMaps (setBlock heap_setBlock_same heap_setBlock_other)
set_option maxRecDepth 20000
set_option linter.unusedVariables false

/-- Three bytes. -/
def Key3 (k : Int × Int × Int) : Prop := (0 ≤ k.1 ∧ k.1 < 256) ∧ (0 ≤ k.2.1 ∧ k.2.1 < 256) ∧ (0 ≤ k.2.2 ∧ k.2.2 < 256)
def kv (k : Int × Int × Int) : Value := .agg #[.int .u8 k.1, .int .u8 k.2.1, .int .u8 k.2.2]
def kl (k : Int × Int × Int) : Go.Lit := .string (keyBytes [.int .u8 k.1, .int .u8 k.2.1, .int .u8 k.2.2])

theorem thr_kv (D : List Int) (i : Nat) : thr D i = kv (thk D i) := rfl

theorem wide3 : (match Try.prog.underlying 69 with | some (.array _ _) | some (.struct _) => true | _ => false) = true := by rw [Try.underlying69]
theorem row3 : (69 : TypeId) < Try.prog.types.size := of_decide_eq_true (by kernel_rfl)
theorem laid3 : laidOutB Try.prog = true := by kernel_rfl
theorem law3 : Go.WideMaps.KeyLaw Try.prog 69 := deep_law_laid laid3 (m := 2) (by omega) row3 (by kernel_rfl) wide3
theorem keyed3 : Keyed Try.prog 69 := Keyed.of_law law3
theorem keyT3 : Try.prog.keyType 69 = true := by kernel_rfl
theorem cells3 : Try.prog.cellsOf 69 = 3 := by kernel_rfl
theorem cells1 : Try.prog.cellsOf 5 = 1 := by kernel_rfl

theorem wf_byte {a : Int} (h : 0 ≤ a ∧ a < 256) : (Go.Lit.int .u8 a).wf = true := WalkArith.wf_u8 (by omega)

theorem key_of {k : Int × Int × Int} (h : Key3 k) : keyOf Try.prog 69 (kv k) = some (kl k) := by
  obtain ⟨a, b, c⟩ := k
  obtain ⟨h1, h2, h3⟩ := h
  simp only at h1 h2 h3
  have w1 := wf_byte h1
  have w2 := wf_byte h2
  have w3 := wf_byte h3
  have hf : (kv (a, b, c)).formed Try.prog 69 = true := by simp [Value.formed, kv, Try.underlying69, cells3]
  have hr := row3
  obtain ⟨n, hn⟩ : ∃ n, Try.prog.types.size + 1 = n + 2 := ⟨Try.prog.types.size - 1, by have : 0 < Try.prog.types.size := Nat.lt_of_le_of_lt (Nat.zero_le _) hr
                                                                                        omega⟩
  unfold keyOf
  rw [Try.underlying69]
  simp only [keyT3, hf, Bool.and_self, if_true]
  rw [hn]
  simp [Program.keyLits, Try.underlying69, Try.underlying5, kv, Value.cells, cells3, cells1, List.range, List.range.loop, w1, w2, w3, kl]

theorem kv_inj {k k' : Int × Int × Int} (h : kv k = kv k') : k = k' := by
  obtain ⟨a, b, c⟩ := k
  obtain ⟨a', b', c'⟩ := k'
  simp only [kv, Value.agg.injEq, Array.mk.injEq, List.cons.injEq, Value.int.injEq, true_and, and_true] at h
  simp [h]

theorem kl_ne {k k' : Int × Int × Int} (h : Key3 k) (h' : Key3 k') (hne : k ≠ k') : kl k ≠ kl k' := fun e =>
  hne (kv_inj (keyed3.inj (key_of h) (by rw [e]; exact key_of h')))

def tokX (v : Value) : Option (DataW Unit × List MemPlace) :=
  match v with
  | .slice none 0 0 => some (.nil, [])
  | .slice (some ⟨b, f, none⟩) n c => some (.agg [.lit (.int .i64 b), .lit (.int .i64 f), .lit (.int .i64 n), .lit (.int .i64 c)], [])
  | _ => none

theorem tokX_inj {v u : Value} {d : DataW Unit} {p q : List MemPlace} (h : tokX v = some (d, p)) (k : tokX u = some (d, q)) : v = u := by
  unfold tokX at h k
  split at h
  · simp only [Option.some.injEq, Prod.mk.injEq] at h
    obtain ⟨rfl, rfl⟩ := h
    split at k
    · rfl
    · simp at k
    · cases k
  · simp only [Option.some.injEq, Prod.mk.injEq] at h
    obtain ⟨rfl, rfl⟩ := h
    split at k
    · simp at k
    · simp only [Option.some.injEq, Prod.mk.injEq, DataW.agg.injEq, List.cons.injEq, DataW.lit.injEq, Lit.int.injEq, and_true, true_and] at k
      obtain ⟨⟨k1, k2, k3, k4⟩, -⟩ := k
      simp only [Value.slice.injEq, Option.some.injEq, Addr.mk.injEq, and_true]
      omega
    · cases k
  · cases h

theorem tokX_none {v : Value} {x : DataW Unit × List MemPlace} (h : tokX v = some x) : x.2 = [] := by
  unfold tokX at h
  split at h
  · cases h; rfl
  · cases h; rfl
  · cases h

theorem zeroRow (w : World) : (zeroValue 56).run Try.prog w = .ok (.slice none 0 0) w := by kernel_rfl

/-- A map of three bytes to rows. -/
def MP (w : World) (m N : Nat) (f : Int × Int × Int → Value) : Prop := ∃ n D, n ≤ N ∧ w.ownsMap Try.prog 69 tokX m n D ∧ ∀ k, Key3 k → tokX (f k) = some (D.atKey (kl k) .nil, [])

def fup (f : Int × Int × Int → Value) (k : Int × Int × Int) (v : Value) : Int × Int × Int → Value := fun q => if q = k then v else f q

theorem MP.lt {w : World} {m N : Nat} {f : Int × Int × Int → Value} (h : MP w m N f) : m < w.heap.size := by
  obtain ⟨n, D, _, ho, _⟩ := h
  exact ho.lt

theorem MP.move {w w' : World} {m N : Nat} {f : Int × Int × Int → Value} (h : MP w m N f) (hb : w'.heap[m]? = w.heap[m]?) : MP w' m N f := by
  obtain ⟨n, D, hn, ⟨es, clock, h1, h2⟩, hf⟩ := h
  exact ⟨n, D, hn, ⟨es, clock, hb.trans h1, h2⟩, hf⟩

theorem MP.mono {w : World} {m N N' : Nat} {f : Int × Int × Int → Value} (h : MP w m N f) (hN : N ≤ N') : MP w m N' f := by
  obtain ⟨n, D, hn, r⟩ := h
  exact ⟨n, D, Nat.le_trans hn hN, r⟩

theorem MP.new {w : World} {m : Nat} (h : w.heap[m]? = some (.map #[] 0)) : MP w m 0 (fun _ => .slice none 0 0) :=
  ⟨0, .map [], Nat.le_refl _, ⟨#[], 0, h, ⟨by simp, Go.MapKept.stamped_empty 0, by simp⟩, Nat.le_refl _, rfl⟩, fun k _ => rfl⟩

theorem MP.look {w : World} {m N : Nat} {f : Int × Int × Int → Value} (h : MP w m N f) {k : Int × Int × Int} (hk : Key3 k) :
    (Instr.lookup 59 (.map (some m)) (kv k) false).run Try.prog w = .ok (f k) w := by
  obtain ⟨n, D, _, ho, hf⟩ := h
  obtain ⟨u, ps, hrun, hu⟩ := ho.lookup keyed3 Try.underlying59 (zeroRow w) (zd := .nil) (zp := []) rfl (key_of hk)
  rw [tokX_inj hu (hf k hk)] at hrun
  exact hrun

theorem MP.put {w w' : World} {m N n : Nat} {D : DataW Unit} {f : Int × Int × Int → Value} {k : Int × Int × Int} {v : Value} {d : DataW Unit} (hf : ∀ k, Key3 k → tokX (f k) = some (D.atKey (kl k) .nil, [])) (hD : IsMap D) (hk : Key3 k) (hv : tokX v = some (d, [])) (hn : n ≤ N)
    (ho : w'.ownsMap Try.prog 69 tokX m (n + 1) (D.put (kl k) d)) : MP w' m (N + 1) (fup f k v) := by
  refine ⟨n + 1, _, by omega, ho, fun q hq => ?_⟩
  unfold fup
  by_cases e : q = k
  · rw [if_pos e, e, atKey_put_same hD (keyed3.key (key_of hk))]
    exact hv
  · rw [if_neg e, atKey_put_other (kl_ne hq hk e)]
    exact hf q hq

theorem MP.store {w : World} {m N : Nat} {f : Int × Int × Int → Value} (h : MP w m N f) (hN : N ≤ 1000000000) {k : Int × Int × Int} (hk : Key3 k) {v : Value} {d : DataW Unit} (hv : tokX v = some (d, [])) :
    ∃ w', (Instr.mapUpdate 59 (.map (some m)) (kv k) v).run Try.prog w = .ok () w' ∧ MP w' m (N + 1) (fup f k v) ∧ w.grownBy w' (some m) := by
  obtain ⟨n, D, hn, ho, hf⟩ := h
  obtain ⟨w', h1, h2, h3⟩ := ho.update keyed3 Try.underlying59 (by unfold maxLen; omega) (key_of hk) hv
  exact ⟨w', h1, MP.put (w := w) hf ho.isMap hk hv hn h2, h3⟩

theorem MP.drop {w : World} {m N : Nat} {f : Int × Int × Int → Value} (h : MP w m N f) {k : Int × Int × Int} (hk : Key3 k) (ty : TypeId) :
    ∃ w', (Builtin.delete_ #[59, 69] ty #[.map (some m), kv k]).run Try.prog w = .ok (.tuple #[]) w' ∧ MP w' m N (fup f k (.slice none 0 0)) ∧ w.grownBy w' (some m) := by
  obtain ⟨n, D, hn, ho, hf⟩ := h
  obtain ⟨w', h1, h2, ⟨es, clock, es', clock', hb, h3⟩⟩ := ho.drop keyed3 Try.underlying59 (key_of hk) ty
  refine ⟨w', h1, ⟨n, _, hn, h2, fun q hq => ?_⟩, ?_⟩
  · unfold fup
    by_cases e : q = k
    · rw [if_pos e, e, atKey_del_same]
      rfl
    · rw [if_neg e, atKey_del_other (kl_ne hq hk e)]
      exact hf q hq
  · rw [h3]
    exact ⟨rfl, rfl, rfl, by simp [setBlock], fun i _ hi => heap_setBlock_other hb _ (fun e => hi (by rw [e]))⟩

theorem MP.entry {w : World} {m N : Nat} {f : Int × Int × Int → Value} (h : MP w m N f) (hN : N ≤ 1000000000) {k : Int × Int × Int} (hk : Key3 k) :
    ∃ (st : Nat) (w1 : World), (Instr.mapEntry 59 (.map (some m)) (kv k)).run Try.prog w = .ok (.tuple #[f k, goInt st]) w1 ∧ w.grownBy w1 (some m) ∧
      ∀ (w2 : World) (v : Value) (d : DataW Unit), w2.heap[m]? = w1.heap[m]? → tokX v = some (d, []) → ∃ w3, (Instr.entryStore 59 (.map (some m)) (goInt st) v).run Try.prog w2 = .ok () w3 ∧ MP w3 m (N + 1) (fup f k v) ∧ w2.grownBy w3 (some m) := by
  obtain ⟨n, D, hn, ho, hf⟩ := h
  have ho' := ho
  obtain ⟨es, clock, hb, F, hs, hD⟩ := ho
  obtain ⟨v0, st, es1, clock1, hE, hcase, hS⟩ := Go.WideElems.entry_then_store (w := w) law3 Try.underlying59 zeroRow hb F (key_of hk)
  have hv0 : v0 = f k := by
    rcases hcase with ⟨e0, hm0, hk0, rfl⟩ | ⟨hno, rfl⟩
    · obtain ⟨y, hy⟩ := F.reads e0 hm0
      obtain ⟨z, hz, _⟩ := Go.WideElems.rd_val hy
      have hat := Go.WideElems.atKey_some law3 F (key_of hk) hm0 hk0 hz .nil
      have h0 := hf k hk
      rw [hD, hat] at h0
      have hz2 := tokX_none hz
      exact tokX_inj (by rw [hz]) h0
    · have hat := Go.WideElems.atKey_none law3 F (key_of hk) hno .nil
      have h0 := hf k hk
      rw [hD, hat] at h0
      exact tokX_inj (p := []) rfl h0
  rw [hv0] at hE
  refine ⟨st, _, hE, ⟨rfl, rfl, rfl, by simp [setBlock], fun i _ hi => heap_setBlock_other hb _ (fun e => hi (by rw [e]))⟩, fun w2 v d hw2 hv => ?_⟩
  rw [heap_setBlock_same hb] at hw2
  obtain ⟨es', clock', r1, r2⟩ := hS w2 v hw2
  obtain ⟨w', q1, q2, _⟩ := ho'.update keyed3 Try.underlying59 (by unfold maxLen; omega) (key_of hk) hv
  rw [r2] at q1
  cases q1
  refine ⟨_, r1, (MP.put (w := w) hf ho'.isMap hk hv hn q2).move ?_, ⟨rfl, rfl, rfl, by simp [setBlock], fun i _ hi => heap_setBlock_other hw2 _ (fun e => hi (by rw [e]))⟩⟩
  rw [heap_setBlock_same hw2, heap_setBlock_same hb]
end Go.Proofs.Ytjdgeonlbjokaaa

