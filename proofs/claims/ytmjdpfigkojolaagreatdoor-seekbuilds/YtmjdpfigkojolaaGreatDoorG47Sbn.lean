import Derived.Test.YtmjdpfigkojolaaGreatDoorG40Sku
import Derived.Test.YtmjdpfigkojolaaGreatDoorG46Sxb
import Derived.Test.YtmjdpfigkojolaaGreatDoorG44Sks
namespace Go.Proofs.YtmjdpfigkojolaaGreatDoor
open Go.RowKit Go.Maps
set_option maxRecDepth 20000
set_option linter.unusedVariables false
set_option linter.unusedSimpArgs false

/-! What both Builds tell of some bytes, in one relation. -/

theorem stepM_len (step : Int) (oo : List Int) (s : List Mk × List Int) (x : Pc) : s.1.length ≤ (stepM step oo s x).1.length := by
  unfold stepM
  split
  · simp [addM]
  · exact Nat.le_refl _

theorem foldM_len (step : Int) (oo : List Int) : ∀ (ps : List Pc) (s : List Mk × List Int), s.1.length ≤ (ps.foldl (stepM step oo) s).1.length
  | [], s => Nat.le_refl _
  | x :: ps, s => by
    rw [List.foldl_cons]
    exact Nat.le_trans (stepM_len step oo s x) (foldM_len step oo ps _)

theorem run_pos (step : Int) (oo : List Int) {ps : List Pc} (h : ps ≠ []) : 0 < (runM step oo ps).1.length := by
  cases ps with
  | nil => exact absurd rfl h
  | cons x ps =>
    unfold runM
    rw [List.foldl_cons]
    refine Nat.lt_of_lt_of_le ?_ (foldM_len step oo ps _)
    simp [stepM, asksB, addM]

theorem Txt.some0 {row : List Int} {L p : Nat} {out : List Int} {ps : List Pc} {e : Int} {q : Nat} {o : List Int} (h : Txt row L p out ps e q o) (he : e = 0) : ps ≠ [] := by
  cases h with
  | bad h1 h2 => exact absurd he h2
  | last h1 => simp
  | go h1 h2 => simp

theorem run_len {row : List Int} {L : Nat} {ps : List Pc} {e : Int} {q : Nat} {oo : List Int} (h : Txt row L 0 [] ps e q oo) (step : Int) : (runM step oo ps).1.length ≤ ps.length := by
  obtain ⟨hr, hm⟩ := h.rise
  have := (kept_fold (oo := oo) step ps ([], []) (by simp) hr fun y hy => ⟨by simp [lastA], (hm y hy).2⟩).2
  unfold runM
  simpa using this

def Dm (l : List Int) (limit step : Int) : Prop := l.length ≤ 33554432 ∧ 0 ≤ limit ∧ limit ≤ 16777216 ∧ 1 ≤ step

def BR (l : List Int) (limit step E : Int) (n : Nat) (ms : List Mk) : Prop :=
  (¬ Dm l limit step ∧ E = 1) ∨ (Dm l limit step ∧ ∃ ps q oo, Txt (unpack l) limit.toNat 0 [] ps E q oo ∧ (E = 0 → n = oo.length ∧ ms = (runM step oo ps).1))

theorem BR.det {l : List Int} {limit step E : Int} {n : Nat} {ms : List Mk} (h : BR l limit step E n ms) {E' : Int} {n' : Nat} {ms' : List Mk} (h' : BR l limit step E' n' ms') : E = E' ∧ (E = 0 → n = n' ∧ ms = ms') := by
  rcases h with ⟨a, rfl⟩ | ⟨a, ps, q, oo, t, r⟩ <;> rcases h' with ⟨a', rfl⟩ | ⟨a', ps', q', oo', t', r'⟩
  · exact ⟨rfl, fun e => by cases e⟩
  · exact absurd a' a
  · exact absurd a a'
  · obtain ⟨rfl, rfl, rfl, rfl⟩ := t.det t'
    refine ⟨rfl, fun e => ?_⟩
    obtain ⟨rfl, rfl⟩ := r e
    obtain ⟨rfl, rfl⟩ := r' e
    exact ⟨rfl, rfl⟩

theorem BR.ok {l : List Int} {limit step : Int} {n : Nat} {ms : List Mk} (h : BR l limit step 0 n ms) : 0 < ms.length ∧ ms.length ≤ 100000000 ∧ n ≤ 16777216 := by
  rcases h with ⟨_, e⟩ | ⟨hd, ps, q, oo, t, r⟩
  · cases e
  obtain ⟨rfl, rfl⟩ := r rfl
  have hlen : (unpack l).length = 8 * l.length := length_unpack l
  have hle := t.le (bit_unpack l) (Nat.zero_le _) (Nat.zero_le _)
  have hcc : 0 + 3 * ps.length ≤ q := (t.chn (bit_unpack l)).cnt22
  have h1 := run_len t step
  obtain ⟨d1, d2, d3, d4⟩ := hd
  exact ⟨run_pos step oo (t.some0 rfl), by omega, by omega⟩

theorem BAns.br {w : World} {l : List Int} {limit step : Int} {e : Ending} {w' : World} (h : BAns w l limit step e w') : Below w.heap.size w w' ∧ ∃ E n ms, BR l limit step E n ms ∧ ((E ≠ 0 ∧ e = .returned (.tuple #[.pointer none, .int .i64 E])) ∨
    (E = 0 ∧ ∃ g mv kv K, e = .returned (.tuple #[.pointer (some ⟨g, 0, none⟩), .int .i64 0]) ∧ w.heap.size ≤ g ∧ Ix w' w.heap.size g n ms K mv kv)) := by
  obtain ⟨hb, h⟩ := h
  refine ⟨hb, ?_⟩
  rcases h with ⟨hs, he⟩ | ⟨hs, E, n, o, hI, ⟨hE, he⟩ | ⟨rfl, g, ps, q, mv, kv, t, he, hg, hx, -⟩⟩
  · exact ⟨1, 0, [], .inl ⟨fun d => by have := d.2.2.2; omega, rfl⟩, .inl ⟨by decide, he⟩⟩
  · refine ⟨E, 0, [], ?_, .inl ⟨hE, he⟩⟩
    rcases hI with ⟨a, r, -⟩ | ⟨a, ps, q, oo, t, -⟩
    · exact .inl ⟨fun d => a ⟨d.1, d.2.1, d.2.2.1⟩, r⟩
    · exact .inr ⟨⟨a.1, a.2.1, a.2.2, hs⟩, ps, q, oo, t, fun r => absurd r hE⟩
  · refine ⟨0, o.length, (runM step o ps).1, ?_, .inr ⟨rfl, g, mv, kv, _, he, hg, hx⟩⟩
    rcases hI with ⟨_, r, -⟩ | ⟨a, -⟩
    · cases r
    · exact .inr ⟨⟨a.1, a.2.1, a.2.2, hs⟩, ps, q, o, t, fun _ => ⟨rfl, rfl⟩⟩

theorem XAns.br {w : World} {l : List Int} {limit step : Int} {e : Ending} {w' : World} (h : XAns w l limit step e w') : Below w.heap.size w w' ∧ ∃ E n ms, BR l limit step E n ms ∧ ((E ≠ 0 ∧ e = .returned (.tuple #[.pointer none, .int .i64 E])) ∨
    (E = 0 ∧ ∃ g pv wv, e = .returned (.tuple #[.pointer (some ⟨g, 0, none⟩), .int .i64 0]) ∧ w.heap.size ≤ g ∧ w'.heap[g]? = some (qxO pv wv n) ∧ OM w' w.heap.size pv (ms.map mk2))) := by
  obtain ⟨hb, h⟩ := h
  refine ⟨hb, ?_⟩
  rcases h with ⟨hd, he⟩ | ⟨hd, ps, E, q, oo, t, ⟨hE, he⟩ | ⟨rfl, g, pv, wv, he, hg, hx, ho⟩⟩
  · exact ⟨1, 0, [], .inl ⟨hd, rfl⟩, .inl ⟨by decide, he⟩⟩
  · exact ⟨E, 0, [], .inr ⟨hd, ps, q, oo, t, fun r => absurd r hE⟩, .inl ⟨hE, he⟩⟩
  · exact ⟨0, oo.length, (runM step oo ps).1, .inr ⟨hd, ps, q, oo, t, fun _ => ⟨rfl, rfl⟩⟩, .inr ⟨rfl, g, pv, wv, he, hg, hx, ho⟩⟩

theorem num22 (e : Int) (w : World) : Calls Tryz.prog 9 #[.int .i64 e] w fun x w' => x = .returned (.int .i64 e) ∧ w' = w := by
  go_enter Tryz.func9, Tryz.ntmps9
  go_wp2
  go_ret
  exact ⟨rfl, rfl⟩

theorem hsame22 {w : World} {B1 B2 : Nat} {v1 v2 : Value} {L : List P2} (h1 : OM w B1 v1 L) (h2 : OM w B2 v2 L) (hl : L.length ≤ 100000000) :
    Calls Tryz.prog 16 #[v1, v2] w fun e w' => e = .returned (.bool true) ∧ ∃ n, w' = w.drewN n := hsameMarks h1 h2 (by omega)
end Go.Proofs.YtmjdpfigkojolaaGreatDoor

