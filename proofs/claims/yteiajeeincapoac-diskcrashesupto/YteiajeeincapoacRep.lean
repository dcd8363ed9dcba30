import Derived.Test.YteiajeeincapoacLaws
import Derived.Test.YteiajeeincapoacWalk3
namespace Go.Proofs.Yteiajeeincapoac
open Go.RowKit Go.Maps

structure St where
  cap : Nat
  now : List Int
  dur : List Int
  pcs : Nat → List (Nat × Nat × List Int)
  sizes : List Nat
  calls : Nat
  dead : Bool
  fused : Bool
  left : Nat
  ents : Nat

def Role (K : Nat → Nat) (v : Value) (r : Nat) : Prop := ∀ k, v.ownBlock = some k → K k = r

def PcsOK (w : World) (K : Nat → Nat) : List Value → List (Nat × Nat × List Int) → Prop
  | [], [] => True
  | a :: b :: c :: r, p :: ps => a = .int .i64 p.1 ∧ b = .int .i64 p.2.1 ∧ SB w c p.2.2 ∧ Role K c 6 ∧ PcsOK w K r ps
  | _, _ => False

def RowOK (w : World) (K : Nat → Nat) (v : Value) (ps : List (Nat × Nat × List Int)) : Prop := ∃ cs, PcsOK w K cs ps ∧ w.ownsRow 0 73 3 v ps.length cs

def OI (w : World) (v : Value) (l : List Nat) : Prop := w.ownsRow 0 3 1 v l.length (l.map fun (n : Nat) => Value.int .i64 n)

def tokR (v : Value) : Option (DataW Unit × List MemPlace) :=
  match v with
  | .slice none 0 0 => some (.nil, [])
  | .slice (some ⟨b, 0, none⟩) n c => some (.agg [.lit (.int .i64 b), .lit (.int .i64 n), .lit (.int .i64 c)], [])
  | _ => none

structure RepV (w : World) (K : Nat → Nat) (g : Nat) (st : St) (vn vd : Value) (m : Nat) (vs : Value) (D : DataW Unit) : Prop where
  dc : DC w g st.cap vn vd m vs st.calls st.dead st.fused st.left
  kg : K g = 1
  hn : OB w 0 vn st.now
  kn : Role K vn 2
  hd : OB w 0 vd st.dur
  kd : Role K vd 3
  hm : ∃ n, n ≤ st.ents ∧ w.ownsMap Try.prog 3 tokR m n D
  km : K m = 4
  hs : OI w vs st.sizes
  ks : Role K vs 5
  rows : ∀ s : Nat, ∃ v, tokR v = some (D.atKey (.int .i64 s) .nil, []) ∧ Role K v (7 + s) ∧ RowOK w K v (st.pcs s)
  keys : ∀ kl, Maps.has D kl = true → ∃ s : Nat, s ≤ 40000 ∧ kl = .int .i64 s
  sup : ∀ k, K k ≠ 0 → k < w.heap.size

def Rep (w : World) (K : Nat → Nat) (g : Nat) (st : St) : Prop := ∃ vn vd m vs D, RepV w K g st vn vd m vs D

structure Fr (K K' : Nat → Nat) (w w' : World) : Prop where
  os : w'.os = w.os
  tape : w'.tape = w.tape
  output : w'.output = w.output
  size : w.heap.size ≤ w'.heap.size
  block : ∀ k, k < w.heap.size → K k = 0 ∨ K k = 6 → w'.heap[k]? = w.heap[k]?
  role : ∀ k, k < w.heap.size → K' k = K k

theorem Fr.refl (K : Nat → Nat) (w : World) : Fr K K w w := ⟨rfl, rfl, rfl, Nat.le_refl _, fun _ _ _ => rfl, fun _ _ => rfl⟩

theorem Fr.trans {K K' K'' : Nat → Nat} {a b c : World} (h : Fr K K' a b) (k : Fr K' K'' b c) : Fr K K'' a c :=
  ⟨k.os.trans h.os, k.tape.trans h.tape, k.output.trans h.output, Nat.le_trans h.size k.size,
   fun i hi h0 => (k.block i (Nat.lt_of_lt_of_le hi h.size) (by rw [h.role i hi]; exact h0)).trans (h.block i hi h0),
   fun i hi => (k.role i (Nat.lt_of_lt_of_le hi h.size)).trans (h.role i hi)⟩

theorem Fr.of_below {K : Nat → Nat} {w w' : World} (h : Below w.heap.size w w') : Fr K K w w' :=
  ⟨h.os, h.tape, h.output, h.size, fun k hk _ => h.block k hk, fun _ _ => rfl⟩

theorem Fr.below {K K' : Nat → Nat} {w w' : World} {B : Nat} (h : Fr K K' w w') (hu : ∀ k, K k ≠ 0 → B ≤ k) (hB : B ≤ w.heap.size) : Below B w w' :=
  ⟨h.os, h.tape, h.output, h.size, fun k hk => h.block k (by omega) (by
    by_cases hz : K k = 0
    · exact .inl hz
    · have := hu k hz; omega)⟩

theorem Fr.up {K K' : Nat → Nat} {w w' : World} {B : Nat} (h : Fr K K' w w') (hu : ∀ k, K k ≠ 0 → B ≤ k) (hB : B ≤ w.heap.size) : ∀ k, K' k ≠ 0 → B ≤ k := by
  intro k hk
  by_cases hl : k < w.heap.size
  · exact hu k (by rw [← h.role k hl]; exact hk)
  · omega

theorem SB.same {w w' : World} {v : Value} {l : List Int} (h : SB w v l) (hb : ∀ k, v.ownBlock = some k → w'.heap[k]? = w.heap[k]?) : SB w' v l :=
  h.move fun _ _ ha hk => (World.cell?_of_block (hb _ hk)).trans ha

theorem PcsOK.move {w w' : World} {K : Nat → Nat} (hb : ∀ k, K k = 6 → w'.heap[k]? = w.heap[k]?) : ∀ (cs : List Value) (ps : List (Nat × Nat × List Int)), PcsOK w K cs ps → PcsOK w' K cs ps
  | [], [], _ => trivial
  | a :: b :: c :: r, p :: ps, h => by
    obtain ⟨h1, h2, h3, h4, h5⟩ := h
    exact ⟨h1, h2, h3.same (fun k hk => hb k (h4 k hk)), h4, PcsOK.move hb r ps h5⟩

theorem ownsRow_same {w w' : World} {base : Nat} {e : TypeId} {size : Nat} {v : Value} {n : Nat} {xs : List Value} (h : w.ownsRow base e size v n xs) (hb : ∀ k, v.ownBlock = some k → w'.heap[k]? = w.heap[k]?) : w'.ownsRow base e size v n xs := by
  refine ⟨h.1, ?_⟩
  rcases h.2 with h2 | ⟨g, cap, cur, rfl, h1, h2, r⟩
  · exact .inl h2
  · exact .inr ⟨g, cap, cur, rfl, h1, (hb g rfl).trans h2, r⟩

theorem ownsMap_same {w w' : World} {m n : Nat} {D : DataW Unit} (h : w.ownsMap Try.prog 3 tokR m n D) (hb : w'.heap[m]? = w.heap[m]?) : w'.ownsMap Try.prog 3 tokR m n D := by
  obtain ⟨es, clock, h1, h2⟩ := h
  exact ⟨es, clock, hb.trans h1, h2⟩

theorem RepV.move {w w' : World} {K : Nat → Nat} {g : Nat} {st : St} {vn vd : Value} {m : Nat} {vs : Value} {D : DataW Unit} (h : RepV w K g st vn vd m vs D) (hsz : w.heap.size ≤ w'.heap.size)
    (hb : ∀ k, K k ≠ 0 → K k ≠ 1 → w'.heap[k]? = w.heap[k]?) {calls : Nat} {dead fused : Bool} {left : Nat} (hdc : DC w' g st.cap vn vd m vs calls dead fused left) :
    RepV w' K g { st with calls := calls, dead := dead, fused := fused, left := left } vn vd m vs D where
  dc := hdc
  kg := h.kg
  hn := h.hn.move fun k hk => hb k (by rw [h.kn k hk]; omega) (by rw [h.kn k hk]; omega)
  kn := h.kn
  hd := h.hd.move fun k hk => hb k (by rw [h.kd k hk]; omega) (by rw [h.kd k hk]; omega)
  kd := h.kd
  hm := by
    obtain ⟨n, hn, hmm⟩ := h.hm
    exact ⟨n, hn, ownsMap_same hmm (hb m (by rw [h.km]; omega) (by rw [h.km]; omega))⟩
  km := h.km
  hs := ownsRow_same h.hs fun k hk => hb k (by rw [h.ks k hk]; omega) (by rw [h.ks k hk]; omega)
  ks := h.ks
  rows := fun s => by
    obtain ⟨v, h1, h2, cs, h3, h4⟩ := h.rows s
    exact ⟨v, h1, h2, cs, h3.move (fun k hk => hb k (by omega) (by omega)), ownsRow_same h4 fun k hk => hb k (by rw [h2 k hk]; omega) (by rw [h2 k hk]; omega)⟩
  keys := h.keys
  sup := fun k hk => Nat.lt_of_lt_of_le (h.sup k hk) hsz

theorem Rep.far {w w' : World} {K : Nat → Nat} {g : Nat} {st : St} (h : Rep w K g st) (hsz : w.heap.size ≤ w'.heap.size) (hb : ∀ k, K k ≠ 0 → w'.heap[k]? = w.heap[k]?) : Rep w' K g st := by
  obtain ⟨vn, vd, m, vs, D, h⟩ := h
  exact ⟨vn, vd, m, vs, D, h.move hsz (fun k hk _ => hb k hk) ((hb g (by rw [h.kg]; omega)).trans h.dc)⟩

theorem Rep.below {w w' : World} {K : Nat → Nat} {g : Nat} {st : St} (h : Rep w K g st) (hb : Below w.heap.size w w') : Rep w' K g st := by
  have h0 := h
  obtain ⟨vn, vd, m, vs, D, h⟩ := h
  exact h0.far hb.size fun k hk => hb.block k (h.sup k hk)
end Go.Proofs.Yteiajeeincapoac
