import Derived.Test.YtaeifigbnlffbaaDoorG11Tpi
namespace Go.Proofs.YtaeifigbnlffbaaDoor
open Go.RowKit Go.Maps
set_option maxRecDepth 20000
set_option linter.unusedVariables false
set_option linter.unusedSimpArgs false

/-! headerOf. -/

def wrs (L : List Int) (ps : List (Nat × List Int)) : List Int := ps.foldl (fun L p => wrt L p.1 p.2) L

theorem wrs_snoc (L : List Int) (ps : List (Nat × List Int)) (p : Nat × List Int) : wrs L (ps ++ [p]) = wrt (wrs L ps) p.1 p.2 := by simp [wrs]

def Fits (ps : List (Nat × List Int)) : Prop := ∀ p ∈ ps, p.1 + p.2.length ≤ 512 ∧ ∀ x ∈ p.2, 0 ≤ x ∧ x < 256

theorem wrs_len {L : List Int} {ps : List (Nat × List Int)} (hl : L.length = 512) (h : Fits ps) : (wrs L ps).length = 512 := by
  induction ps generalizing L with
  | nil => exact hl
  | cons p ps ih =>
    have := h p (List.mem_cons_self ..)
    show (wrs (wrt L p.1 p.2) ps).length = 512
    exact ih (by rw [wrt_len (by omega)]; exact hl) (fun q hq => h q (List.mem_cons_of_mem _ hq))

theorem wrs_rng {L : List Int} {ps : List (Nat × List Int)} (hl : ∀ x ∈ L, 0 ≤ x ∧ x < 256) (h : Fits ps) : ∀ x ∈ wrs L ps, 0 ≤ x ∧ x < 256 := by
  induction ps generalizing L with
  | nil => exact hl
  | cons p ps ih =>
    have := h p (List.mem_cons_self ..)
    show ∀ x ∈ wrs (wrt L p.1 p.2) ps, _
    exact ih (wrt_rng hl this.2) (fun q hq => h q (List.mem_cons_of_mem _ hq))

theorem sbs_rng (s : ByteArray) : ∀ x ∈ sbs s, 0 ≤ x ∧ x < 256 := by
  intro x hx
  unfold sbs at hx
  obtain ⟨b, -, rfl⟩ := List.mem_map.1 hx
  have := b.toNat_lt
  omega

def txP (f : Fl) : List (Nat × List Int) := [(0, sbs (cutB f.nm).2.1), (157, sbs f.lk), (265, sbs f.us), (297, sbs f.tm), (345, sbs (cutB f.nm).1)]
def nmP (f : Fl) : List (Nat × List Int) := [(100, oct f.md.toNat 7), (108, oct f.ow.toNat 7), (116, oct f.gr.toNat 7), (124, oct f.dt.length 11), (136, oct f.ti.toNat 11), (329, oct 0 7), (337, oct 0 7)]
def mag : ByteArray := ⟨#[117, 115, 116, 97, 114, 0, 48, 48]⟩

def hdA (f : Fl) : List Int := wrs z512 (txP f ++ nmP f ++ [(156, [48 + f.kd]), (257, sbs mag)])
def hdP (f : Fl) : List Int := wrs (hdA f) [(148, oct (sumN (hdA f)).toNat 6), (155, [32])]

structure Hok (f : Fl) : Prop where
  pre : (cutB f.nm).1.size ≤ 155
  rest : (cutB f.nm).2.1.size ≤ 100
  lk : f.lk.size ≤ 100
  us : f.us.size ≤ 32
  tm : f.tm.size ≤ 32
  md0 : 0 ≤ f.md
  md1 : f.md ≤ 2097151
  ow0 : 0 ≤ f.ow
  ow1 : f.ow ≤ 2097151
  gr0 : 0 ≤ f.gr
  gr1 : f.gr ≤ 2097151
  ti0 : 0 ≤ f.ti
  ti1 : f.ti ≤ 8589934591
  kd0 : 0 ≤ f.kd
  kd1 : f.kd ≤ 5
  dt : f.dt.length ≤ 100000000

theorem Hok.tx {f : Fl} (h : Hok f) : Fits (txP f) := by
  intro p hp
  have := h.pre; have := h.rest; have := h.lk; have := h.us; have := h.tm
  unfold txP at hp
  simp only [List.mem_cons, List.not_mem_nil, or_false] at hp
  rcases hp with rfl | rfl | rfl | rfl | rfl <;> exact ⟨by simp only [sbs_len]; omega, sbs_rng _⟩

theorem Hok.nm {f : Fl} (h : Hok f) : Fits (nmP f) := by
  intro p hp
  unfold nmP at hp
  simp only [List.mem_cons, List.not_mem_nil, or_false] at hp
  rcases hp with rfl | rfl | rfl | rfl | rfl | rfl | rfl <;> exact ⟨by simp only [oct_len]; omega, oct_byt _ _⟩

theorem Hok.all {f : Fl} (h : Hok f) : Fits (txP f ++ nmP f ++ [(156, [48 + f.kd]), (257, sbs mag)]) := by
  intro p hp
  simp only [List.mem_append] at hp
  rcases hp with (hp | hp) | hp
  · exact h.tx p hp
  · exact h.nm p hp
  · simp only [List.mem_cons, List.not_mem_nil, or_false] at hp
    have := h.kd0; have := h.kd1
    rcases hp with rfl | rfl
    · refine ⟨by simp, fun x hx => ?_⟩
      simp at hx; omega
    · exact ⟨by rw [sbs_len]; decide, sbs_rng _⟩

theorem z512_rng : ∀ x ∈ z512, 0 ≤ x ∧ x < 256 := fun x hx => by
  unfold z512 at hx
  rw [List.eq_of_mem_replicate hx]; decide

theorem Hok.lenA {f : Fl} (h : Hok f) : (hdA f).length = 512 := wrs_len z512_len h.all
theorem Hok.rngA {f : Fl} (h : Hok f) : ∀ x ∈ hdA f, 0 ≤ x ∧ x < 256 := wrs_rng z512_rng h.all

theorem set_wrt (L : List Int) (i : Nat) (x : Int) (h : i < L.length) : L.set i x = wrt L i [x] := by
  unfold wrt
  rw [List.set_eq_take_append_cons_drop, if_pos h]
  simp

theorem hput8 (g a n : Nat) (L : List Int) (w : World) (hg : w.heap[g]? = some (.cells (ab L) 51 (0, 0))) (hl : L.length = 512) (ha : 1 ≤ a) (hd : a + 7 ≤ 512) (hn : n ≤ 8589934591) :
    Calls Tryd.prog 45 #[.pointer (some ⟨g, 0, none⟩), .agg #[.int .i64 a, .int .i64 8], .int .i64 n] w fun e w' => e = .returned (.tuple #[]) ∧ w'.heap[g]? = some (.cells (ab (wrt L a (oct n 7))) 51 (0, 0)) ∧ w.grownBy w' (some g) := hputNumber g a 7 n L w hg hl ha hd hn
theorem hput12 (g a n : Nat) (L : List Int) (w : World) (hg : w.heap[g]? = some (.cells (ab L) 51 (0, 0))) (hl : L.length = 512) (ha : 1 ≤ a) (hd : a + 11 ≤ 512) (hn : n ≤ 8589934591) :
    Calls Tryd.prog 45 #[.pointer (some ⟨g, 0, none⟩), .agg #[.int .i64 a, .int .i64 12], .int .i64 n] w fun e w' => e = .returned (.tuple #[]) ∧ w'.heap[g]? = some (.cells (ab (wrt L a (oct n 11))) 51 (0, 0)) ∧ w.grownBy w' (some g) := hputNumber g a 11 n L w hg hl ha hd hn
theorem hput7 (g a n : Nat) (L : List Int) (w : World) (hg : w.heap[g]? = some (.cells (ab L) 51 (0, 0))) (hl : L.length = 512) (ha : 1 ≤ a) (hd : a + 6 ≤ 512) (hn : n ≤ 8589934591) :
    Calls Tryd.prog 45 #[.pointer (some ⟨g, 0, none⟩), .agg #[.int .i64 a, .int .i64 7], .int .i64 n] w fun e w' => e = .returned (.tuple #[]) ∧ w'.heap[g]? = some (.cells (ab (wrt L a (oct n 6))) 51 (0, 0)) ∧ w.grownBy w' (some g) := hputNumber g a 6 n L w hg hl ha hd hn

theorem grown_below24 {w w' : World} {g B : Nat} (h : w.grownBy w' (some g)) (hB : B ≤ g) (hz : B ≤ w.heap.size) : Below B w w' :=
  ⟨h.os, h.tape, h.output, h.size, fun b hb => h.block b (by omega) (fun e => by simp only [Option.some.injEq] at e; omega)⟩

theorem grown_trans24 {w w' w'' : World} {g : Nat} (h : w.grownBy w' (some g)) (h' : w'.grownBy w'' (some g)) : w.grownBy w'' (some g) :=
  ⟨h'.os.trans h.os, h'.tape.trans h.tape, h'.output.trans h.output, Nat.le_trans h.size h'.size, fun b hb hn => (h'.block b (by have := h.size; omega) hn).trans (h.block b hb hn)⟩

theorem below_grown24 {w w' : World} {g : Nat} (h : Below w.heap.size w w') : w.grownBy w' (some g) := ⟨h.os, h.tape, h.output, h.size, fun b hb _ => h.block b hb⟩

theorem grown_refl24 (w : World) (g : Nat) : w.grownBy w (some g) := ⟨rfl, rfl, rfl, Nat.le_refl _, fun _ _ _ => rfl⟩

theorem fits_take {ps : List (Nat × List Int)} (h : Fits ps) (k : Nat) : Fits (ps.take k) := fun p hp => h p (List.mem_of_mem_take hp)

theorem infoS24 : (Tryd.prog.info? 9).map (fun i => (i.zero, i.size, i.bytes)) = some (some (.string ⟨#[]⟩), 1, 16) := by kernel_rfl
theorem infoI24 : (Tryd.prog.info? 3).map (fun i => (i.zero, i.size, i.bytes)) = some (some (.int .i64 0), 1, 8) := by kernel_rfl

theorem ix5s (A : Array Value) (k : Nat) (v : Value) (hA : A.size = 5) (h : A[k]? = some v) (w : World) : (Instr.index 78 (.agg A) (.int .i64 k)).run Tryd.prog w = .ok v w := by
  obtain ⟨i0, hi, hz0, hz1, hz2⟩ := info_parts infoS24
  have hk : k < A.size := (Array.getElem?_eq_some_iff.1 h).1
  simp [Instr.index, asIntOf, run_underlying Tryd.underlying78, sizeOf, typeInfo, hi, hz1, part, isAgg, run_underlying Tryd.underlying9, h]
  omega

theorem ix7i (A : Array Value) (k : Nat) (v : Value) (hA : A.size = 7) (h : A[k]? = some v) (w : World) : (Instr.index 80 (.agg A) (.int .i64 k)).run Tryd.prog w = .ok v w := by
  obtain ⟨i0, hi, hz0, hz1, hz2⟩ := info_parts infoI24
  have hk : k < A.size := (Array.getElem?_eq_some_iff.1 h).1
  simp [Instr.index, asIntOf, run_underlying Tryd.underlying80, sizeOf, typeInfo, hi, hz1, part, isAgg, run_underlying Tryd.underlying3, h]
  omega

set_option maxHeartbeats 4000000 in
theorem hheaderOf (f : Fl) (ao : Option Addr) (cap : Nat) (w : World) (T : Tbs w) (hok : Hok f) (hs : f.nm.size ≤ 1048576) :
    Calls Tryd.prog 25 #[.agg (fcs f (.slice ao f.dt.length cap))] w fun e w' => e = .returned (.agg (ab (hdP f))) ∧ Below w.heap.size w w' := by
  obtain ⟨wb, hwb⟩ : ∃ wb, w.alloc (.cells (fcs f (.slice ao f.dt.length cap)) 39) = wb := ⟨_, rfl⟩
  obtain ⟨hB, hN⟩ := alloc_box hwb
  have HB := hide hB
  have HT : Hid (∀ wx, Below wb.heap.size wb wx → Tbs wx) := fun wx hb => (T.mono hB).mono hb
  have HZB : Hid (wb.heap.size = w.heap.size + 1) := by show _ = _; rw [← hwb]; simp
  have HBX : Hid (∀ wx, Below wb.heap.size wb wx → wx.heap[w.heap.size]? = some (.cells (fcs f (.slice ao f.dt.length cap)) 39 (0, 0))) := fun wx hb => by
    rw [hb.block _ (Array.getElem?_eq_some_iff.1 hN).1]; exact hN
  have HC : Hid (∀ wx, Below wb.heap.size wb wx → Calls Tryd.prog 41 #[.string f.nm] wx fun e w' => e = .returned (.tuple #[.string (cutB f.nm).1, .string (cutB f.nm).2.1, .bool (cutB f.nm).2.2]) ∧ ∃ n, w' = wx.drewN n) := fun wx hb => hcut f.nm wx (HT.out wx hb) (by omega)
  have HOK := hide hok
  have HF : Hid (∃ f', f' = f) := ⟨f, rfl⟩
  obtain ⟨P, HP⟩ : ∃ P, Hid (P = hdP f) := ⟨_, rfl⟩
  obtain ⟨Q, HQ⟩ : ∃ Q, Hid (Q = hdA f) := ⟨_, rfl⟩
  obtain ⟨X, HX⟩ : ∃ X, Hid (X = txP f) := ⟨_, rfl⟩
  obtain ⟨Y, HY⟩ : ∃ Y, Hid (Y = nmP f) := ⟨_, rfl⟩
  have HPQ : Hid (P = wrs Q [(148, oct (sumN Q).toNat 6), (155, [32])]) := by show _ = _; rw [HP.out, HQ.out]; rfl
  have HQX : Hid (Q = wrs z512 (X ++ Y ++ [(156, [48 + f.kd]), (257, sbs mag)])) := by show _ = _; rw [HQ.out, HX.out, HY.out]; rfl
  have HLX : Hid (Fits X ∧ Fits Y ∧ Q.length = 512 ∧ ∀ x ∈ Q, 0 ≤ x ∧ x < 256) := by
    show _ ∧ _ ∧ _ ∧ _
    rw [HX.out, HY.out, HQ.out]
    exact ⟨hok.tx, hok.nm, hok.lenA, hok.rngA⟩
  rw [← HP.out]
  obtain ⟨nm, lk, us, tm, kd, md, ow, gr, ti, dt⟩ := f
  obtain ⟨g1, g2, g3, g4, g5, g6, g7, g8, g9, g10, g11, g12, g13, g14, g15, g16⟩ := hok
  simp only at HC HBX HQX hwb hN g1 g2 g3 g4 g5 g6 g7 g8 g9 g10 g11 g12 g13 g14 g15 g16
  obtain ⟨ct1, ct2, ct3, hct⟩ : ∃ a b c, cutB nm = (a, b, c) := ⟨_, _, _, rfl⟩
  have HXX : Hid (X = [(0, sbs ct2), (157, sbs lk), (265, sbs us), (297, sbs tm), (345, sbs ct1)]) := by show _ = _; rw [HX.out]; unfold txP; simp only [hct]
  have HYY : Hid (Y = [(100, oct md.toNat 7), (108, oct ow.toNat 7), (116, oct gr.toNat 7), (124, oct dt.length 11), (136, oct ti.toNat 11), (329, oct 0 7), (337, oct 0 7)]) := by show _ = _; rw [HY.out]; rfl
  rw [hct] at HC g1 g2
  simp only at HC g1 g2
  obtain ⟨mdn, rfl⟩ := Int.eq_ofNat_of_zero_le g6
  obtain ⟨own, rfl⟩ := Int.eq_ofNat_of_zero_le g8
  obtain ⟨grn, rfl⟩ := Int.eq_ofNat_of_zero_le g10
  obtain ⟨tin, rfl⟩ := Int.eq_ofNat_of_zero_le g12
  simp only [Int.toNat_natCast] at HYY
  obtain ⟨n, HN⟩ : ∃ n, Hid (n = dt.length) := ⟨_, rfl⟩
  rw [← HN.out] at HYY g16 HBX hwb hN ⊢
  obtain ⟨k0, k1, k2, k3, k4, k5, k6, k7, k8, k9⟩ := box10 hN
  clear hN hB T HP HQ HX HY HF HOK hct
  go_enter Tryd.func25, Tryd.ntmps25
  go_wp2_with (first | (have hq := H1.out; clear hq; refine wpList_al512 rfl rfl ?_; intro w2 h2 b2 z2; have H2 := hide h2; have HZ2 := hide z2.out; have B2 := hide (B1.out.trans (b2.mono B1.out.size)); have H12 := hide ((b2.block _ (Array.getElem?_eq_some_iff.1 H1.out).1).trans H1.out); clear h2 b2 z2 k0 k1 k2 k3 k4 k5 k6 k7 k8 k9; obtain ⟨k0, k1, k2, k3, k4, k5, k6, k7, k8, k9⟩ := box10 (HBX.out _ B2.out)) | (refine wpList_al512 rfl rfl ?_; intro w1 h1 b1 z1; have H1 := hide h1; have HZ1 := hide z1.out; have B1 := hide b1; clear h1 b1 z1) | (go_at_call 41; refine (HC.out _ B2.out).mono ?_; rintro e w3 ⟨rfl, n3, hn3⟩; have B3 : Hid (Below wb.heap.size wb w3) := (by show Below _ _ _; rw [hn3]; exact below_drewN B2.out n3); have H3 : Hid (w3.heap = w2.heap) := (by show _ = _; rw [hn3]; rfl); clear hn3 k0 k1 k2 k3 k4 k5 k6 k7 k8 k9; obtain ⟨k0, k1, k2, k3, k4, k5, k6, k7, k8, k9⟩ := box10 (HBX.out _ B3.out)))
  obtain ⟨g, hg⟩ : ∃ g, w1.heap.size = g := ⟨_, rfl⟩
  obtain ⟨r, hr⟩ : ∃ r, wb.heap.size = r := ⟨_, rfl⟩
  obtain ⟨b0, hb0⟩ : ∃ b0, w.heap.size = b0 := ⟨_, rfl⟩
  have HORD : Hid (b0 < r ∧ r < g ∧ g < w3.heap.size) := by
    have q1 := HZB.out
    have q2 := HZ1.out
    have q3 := HZ2.out
    have q4 : w3.heap.size = w2.heap.size := by rw [H3.out]
    show _ ∧ _ ∧ _
    omega
  have HG3 : Hid (w3.heap[g]? = some (.cells (ab z512) 51 (0, 0))) := by show _ = _; rw [H3.out, ← hg]; exact H2.out
  have HR3 : Hid (w3.heap[r]? = some (.cells (ab z512) 51 (0, 0))) := by show _ = _; rw [H3.out, ← hr]; exact H12.out
  have HG := hide hg
  have HR := hide hr
  have HB0 := hide hb0
  rw [hb0] at k0 k1 k2 k3 k4 k5 k6 k7 k8 k9
  rw [hb0, hr, hg]
  rw [hb0] at HBX
  rw [hr] at B3 HT HBX
  clear hg hr hb0 H12 H1 H2 B1 HC
  go_loopw [28] (fun i wx => ∃ k : Nat, k ≤ 5 ∧ i = .int .i64 k ∧ wx.heap[g]? = some (.cells (ab (wrs z512 (X.take k))) 51 (0, 0)) ∧ w3.grownBy wx (some g)) (fun i _ => 5 - (intOf i).toNat)
  case atStart => exact ⟨0, Nat.zero_le _, rfl, HG3.out, grown_refl24 _ _⟩
  case round =>
    obtain ⟨k, hk, rfl, h1, h2⟩ := hrel
    have BR : Hid (Below r wb wr) := B3.out.trans (grown_below24 h2 (by have := HORD.out; omega) (by have := HORD.out; omega))
    obtain ⟨k0, k1, k2, k3, k4, k5, k6, k7, k8, k9⟩ := box10 (HBX.out _ BR.out)
    have H1 := hide h1
    have H2 := hide h2
    clear h1 h2
    by_cases hlt : k < 5
    · have hlt' : (k : Int) < 5 := by omega
      have hLk : (wrs z512 (X.take k)).length = 512 := wrs_len z512_len (fits_take HLX.out.1 k)
      have HNX : Hid (∀ p, X[k]? = some p → wrt (wrs z512 (X.take k)) p.1 p.2 = wrs z512 (X.take (k + 1))) := fun p hp => by
        rw [List.take_add_one, hp, Option.toList_some, wrs_snoc]
      have t := (HT.out _ BR.out).tx
      have t0 := t 0 0 rfl
      have t2 := t 2 157 rfl
      have t4 := t 4 265 rfl
      have t6 := t 6 297 rfl
      have t8 := t 8 345 rfl
      obtain ⟨L, HL⟩ : ∃ L, Hid (L = wrs z512 (X.take k)) := ⟨_, rfl⟩
      rw [← HL.out] at H1 hLk HNX
      clear t
      obtain rfl | rfl | rfl | rfl | rfl : k = 0 ∨ k = 1 ∨ k = 2 ∨ k = 3 ∨ k = 4 := by omega
      · have hix : ∀ w, (Instr.index 78 (.agg #[.string ct2, .string lk, .string us, .string tm, .string ct1]) (.int .i64 0)).run Tryd.prog w = .ok (.string ct2) w := fun w => ix5s _ 0 _ rfl rfl w
        go_wp2_with (refine wpList_copyS rfl _ _ rfl g _ _ _ L 51 H1.out (by rfl) _ (by rfl) (by omega) (by omega) ?_; intro w4 h4 g4 z4; have H4 := hide (h4.out.trans (congrArg (fun l => some (Obj.cells (ab l) 51 (0, 0))) (HNX.out _ (by rw [HXX.out]; rfl)))); have G4 := hide (grown_trans24 H2.out g4); clear h4 g4 z4)
        go_roundw
        case rel => exact ⟨1, by omega, by go_num, H4.out, G4.out⟩
        case measure => simp [intOf]
      · have hix : ∀ w, (Instr.index 78 (.agg #[.string ct2, .string lk, .string us, .string tm, .string ct1]) (.int .i64 1)).run Tryd.prog w = .ok (.string lk) w := fun w => ix5s _ 1 _ rfl rfl w
        go_wp2_with (refine wpList_copyS rfl _ _ rfl g _ _ _ L 51 H1.out (by rfl) _ (by rfl) (by omega) (by omega) ?_; intro w4 h4 g4 z4; have H4 := hide (h4.out.trans (congrArg (fun l => some (Obj.cells (ab l) 51 (0, 0))) (HNX.out _ (by rw [HXX.out]; rfl)))); have G4 := hide (grown_trans24 H2.out g4); clear h4 g4 z4)
        go_roundw
        case rel => exact ⟨2, by omega, by go_num, H4.out, G4.out⟩
        case measure => simp [intOf]
      · have hix : ∀ w, (Instr.index 78 (.agg #[.string ct2, .string lk, .string us, .string tm, .string ct1]) (.int .i64 2)).run Tryd.prog w = .ok (.string us) w := fun w => ix5s _ 2 _ rfl rfl w
        go_wp2_with (refine wpList_copyS rfl _ _ rfl g _ _ _ L 51 H1.out (by rfl) _ (by rfl) (by omega) (by omega) ?_; intro w4 h4 g4 z4; have H4 := hide (h4.out.trans (congrArg (fun l => some (Obj.cells (ab l) 51 (0, 0))) (HNX.out _ (by rw [HXX.out]; rfl)))); have G4 := hide (grown_trans24 H2.out g4); clear h4 g4 z4)
        go_roundw
        case rel => exact ⟨3, by omega, by go_num, H4.out, G4.out⟩
        case measure => simp [intOf]
      · have hix : ∀ w, (Instr.index 78 (.agg #[.string ct2, .string lk, .string us, .string tm, .string ct1]) (.int .i64 3)).run Tryd.prog w = .ok (.string tm) w := fun w => ix5s _ 3 _ rfl rfl w
        go_wp2_with (refine wpList_copyS rfl _ _ rfl g _ _ _ L 51 H1.out (by rfl) _ (by rfl) (by omega) (by omega) ?_; intro w4 h4 g4 z4; have H4 := hide (h4.out.trans (congrArg (fun l => some (Obj.cells (ab l) 51 (0, 0))) (HNX.out _ (by rw [HXX.out]; rfl)))); have G4 := hide (grown_trans24 H2.out g4); clear h4 g4 z4)
        go_roundw
        case rel => exact ⟨4, by omega, by go_num, H4.out, G4.out⟩
        case measure => simp [intOf]
      · have hix : ∀ w, (Instr.index 78 (.agg #[.string ct2, .string lk, .string us, .string tm, .string ct1]) (.int .i64 4)).run Tryd.prog w = .ok (.string ct1) w := fun w => ix5s _ 4 _ rfl rfl w
        go_wp2_with (refine wpList_copyS rfl _ _ rfl g _ _ _ L 51 H1.out (by rfl) _ (by rfl) (by omega) (by omega) ?_; intro w4 h4 g4 z4; have H4 := hide (h4.out.trans (congrArg (fun l => some (Obj.cells (ab l) 51 (0, 0))) (HNX.out _ (by rw [HXX.out]; rfl)))); have G4 := hide (grown_trans24 H2.out g4); clear h4 g4 z4)
        go_roundw
        case rel => exact ⟨5, by omega, by go_num, H4.out, G4.out⟩
        case measure => simp [intOf]
    · obtain rfl : k = 5 := by omega
      have hX5 : X.take 5 = X := by rw [HXX.out]; rfl
      rw [hX5] at H1
      obtain ⟨L1, HL1⟩ : ∃ L1, Hid (L1 = wrs z512 X) := ⟨_, rfl⟩
      rw [← HL1.out] at H1
      have HLL1 : Hid (L1.length = 512) := by show _ = _; rw [HL1.out]; exact wrs_len z512_len HLX.out.1
      clear hX5
      go_wp2
      go_loopw [52] (fun i wx => ∃ k : Nat, k ≤ 7 ∧ i = .int .i64 k ∧ wx.heap[g]? = some (.cells (ab (wrs L1 (Y.take k))) 51 (0, 0)) ∧ w3.grownBy wx (some g)) (fun i _ => 7 - (intOf i).toNat)
      case atStart => exact ⟨0, Nat.zero_le _, rfl, H1.out, H2.out⟩
      case round =>
        obtain ⟨k, hk, rfl, h1, h2⟩ := hrel
        have BR9 : Hid (Below r wb wr) := B3.out.trans (grown_below24 h2 (by have := HORD.out; omega) (by have := HORD.out; omega))
        clear k0 k1 k2 k3 k4 k5 k6 k7 k8 k9
        have H3 := hide h1
        have H4 := hide h2
        clear h1 h2
        by_cases hlt : k < 7
        · have hlt' : (k : Int) < 7 := by omega
          have hLk : (wrs L1 (Y.take k)).length = 512 := wrs_len HLL1.out (fits_take HLX.out.2.1 k)
          have HNX : Hid (∀ p, Y[k]? = some p → wrt (wrs L1 (Y.take k)) p.1 p.2 = wrs L1 (Y.take (k + 1))) := fun p hp => by
            rw [List.take_add_one, hp, Option.toList_some, wrs_snoc]
          have t := (HT.out _ BR9.out).nm
          have t0 := t 0 100 rfl
          have t1 := t 1 8 rfl
          have t2 := t 2 108 rfl
          have t3 := t 3 8 rfl
          have t4 := t 4 116 rfl
          have t5 := t 5 8 rfl
          have t6 := t 6 124 rfl
          have t7 := t 7 12 rfl
          have t8 := t 8 136 rfl
          have t9 := t 9 12 rfl
          have t10 := t 10 329 rfl
          have t11 := t 11 8 rfl
          have t12 := t 12 337 rfl
          have t13 := t 13 8 rfl
          obtain ⟨L, HL⟩ : ∃ L, Hid (L = wrs L1 (Y.take k)) := ⟨_, rfl⟩
          rw [← HL.out] at H3 hLk HNX
          clear t
          obtain rfl | rfl | rfl | rfl | rfl | rfl | rfl : k = 0 ∨ k = 1 ∨ k = 2 ∨ k = 3 ∨ k = 4 ∨ k = 5 ∨ k = 6 := by omega
          · have hix : ∀ w, (Instr.index 80 (.agg #[.int .i64 (mdn : Nat), .int .i64 (own : Nat), .int .i64 (grn : Nat), .int .i64 (n : Nat), .int .i64 (tin : Nat), .int .i64 0, .int .i64 0]) (.int .i64 0)).run Tryd.prog w = .ok (.int .i64 (mdn : Nat)) w := fun w => ix7i _ 0 _ rfl rfl w
            have HPU := hide (hput8 g 100 mdn L wr H3.out hLk (by omega) (by omega) (by omega))
            go_wp2_with fail
            refine HPU.out.mono ?_
            rintro e w4 ⟨rfl, h4, g4⟩
            have H5 := hide (h4.trans (congrArg (fun l => some (Obj.cells (ab l) 51 (0, 0))) (HNX.out _ (by rw [HYY.out]; rfl))))
            have G5 := hide (grown_trans24 H4.out g4)
            clear h4 g4
            go_wp2
            go_roundw
            case rel => exact ⟨1, by omega, by go_num, H5.out, G5.out⟩
            case measure => simp [intOf]
          · have hix : ∀ w, (Instr.index 80 (.agg #[.int .i64 (mdn : Nat), .int .i64 (own : Nat), .int .i64 (grn : Nat), .int .i64 (n : Nat), .int .i64 (tin : Nat), .int .i64 0, .int .i64 0]) (.int .i64 1)).run Tryd.prog w = .ok (.int .i64 (own : Nat)) w := fun w => ix7i _ 1 _ rfl rfl w
            have HPU := hide (hput8 g 108 own L wr H3.out hLk (by omega) (by omega) (by omega))
            go_wp2_with fail
            refine HPU.out.mono ?_
            rintro e w4 ⟨rfl, h4, g4⟩
            have H5 := hide (h4.trans (congrArg (fun l => some (Obj.cells (ab l) 51 (0, 0))) (HNX.out _ (by rw [HYY.out]; rfl))))
            have G5 := hide (grown_trans24 H4.out g4)
            clear h4 g4
            go_wp2
            go_roundw
            case rel => exact ⟨2, by omega, by go_num, H5.out, G5.out⟩
            case measure => simp [intOf]
          · have hix : ∀ w, (Instr.index 80 (.agg #[.int .i64 (mdn : Nat), .int .i64 (own : Nat), .int .i64 (grn : Nat), .int .i64 (n : Nat), .int .i64 (tin : Nat), .int .i64 0, .int .i64 0]) (.int .i64 2)).run Tryd.prog w = .ok (.int .i64 (grn : Nat)) w := fun w => ix7i _ 2 _ rfl rfl w
            have HPU := hide (hput8 g 116 grn L wr H3.out hLk (by omega) (by omega) (by omega))
            go_wp2_with fail
            refine HPU.out.mono ?_
            rintro e w4 ⟨rfl, h4, g4⟩
            have H5 := hide (h4.trans (congrArg (fun l => some (Obj.cells (ab l) 51 (0, 0))) (HNX.out _ (by rw [HYY.out]; rfl))))
            have G5 := hide (grown_trans24 H4.out g4)
            clear h4 g4
            go_wp2
            go_roundw
            case rel => exact ⟨3, by omega, by go_num, H5.out, G5.out⟩
            case measure => simp [intOf]
          · have hix : ∀ w, (Instr.index 80 (.agg #[.int .i64 (mdn : Nat), .int .i64 (own : Nat), .int .i64 (grn : Nat), .int .i64 (n : Nat), .int .i64 (tin : Nat), .int .i64 0, .int .i64 0]) (.int .i64 3)).run Tryd.prog w = .ok (.int .i64 (n : Nat)) w := fun w => ix7i _ 3 _ rfl rfl w
            have HPU := hide (hput12 g 124 n L wr H3.out hLk (by omega) (by omega) (by omega))
            go_wp2_with fail
            refine HPU.out.mono ?_
            rintro e w4 ⟨rfl, h4, g4⟩
            have H5 := hide (h4.trans (congrArg (fun l => some (Obj.cells (ab l) 51 (0, 0))) (HNX.out _ (by rw [HYY.out]; rfl))))
            have G5 := hide (grown_trans24 H4.out g4)
            clear h4 g4
            go_wp2
            go_roundw
            case rel => exact ⟨4, by omega, by go_num, H5.out, G5.out⟩
            case measure => simp [intOf]
          · have hix : ∀ w, (Instr.index 80 (.agg #[.int .i64 (mdn : Nat), .int .i64 (own : Nat), .int .i64 (grn : Nat), .int .i64 (n : Nat), .int .i64 (tin : Nat), .int .i64 0, .int .i64 0]) (.int .i64 4)).run Tryd.prog w = .ok (.int .i64 (tin : Nat)) w := fun w => ix7i _ 4 _ rfl rfl w
            have HPU := hide (hput12 g 136 tin L wr H3.out hLk (by omega) (by omega) (by omega))
            go_wp2_with fail
            refine HPU.out.mono ?_
            rintro e w4 ⟨rfl, h4, g4⟩
            have H5 := hide (h4.trans (congrArg (fun l => some (Obj.cells (ab l) 51 (0, 0))) (HNX.out _ (by rw [HYY.out]; rfl))))
            have G5 := hide (grown_trans24 H4.out g4)
            clear h4 g4
            go_wp2
            go_roundw
            case rel => exact ⟨5, by omega, by go_num, H5.out, G5.out⟩
            case measure => simp [intOf]
          · have hix : ∀ w, (Instr.index 80 (.agg #[.int .i64 (mdn : Nat), .int .i64 (own : Nat), .int .i64 (grn : Nat), .int .i64 (n : Nat), .int .i64 (tin : Nat), .int .i64 0, .int .i64 0]) (.int .i64 5)).run Tryd.prog w = .ok (.int .i64 0) w := fun w => ix7i _ 5 _ rfl rfl w
            have HPU := hide (hput8 g 329 0 L wr H3.out hLk (by omega) (by omega) (by omega))
            go_wp2_with fail
            refine HPU.out.mono ?_
            rintro e w4 ⟨rfl, h4, g4⟩
            have H5 := hide (h4.trans (congrArg (fun l => some (Obj.cells (ab l) 51 (0, 0))) (HNX.out _ (by rw [HYY.out]; rfl))))
            have G5 := hide (grown_trans24 H4.out g4)
            clear h4 g4
            go_wp2
            go_roundw
            case rel => exact ⟨6, by omega, by go_num, H5.out, G5.out⟩
            case measure => simp [intOf]
          · have hix : ∀ w, (Instr.index 80 (.agg #[.int .i64 (mdn : Nat), .int .i64 (own : Nat), .int .i64 (grn : Nat), .int .i64 (n : Nat), .int .i64 (tin : Nat), .int .i64 0, .int .i64 0]) (.int .i64 6)).run Tryd.prog w = .ok (.int .i64 0) w := fun w => ix7i _ 6 _ rfl rfl w
            have HPU := hide (hput8 g 337 0 L wr H3.out hLk (by omega) (by omega) (by omega))
            go_wp2_with fail
            refine HPU.out.mono ?_
            rintro e w4 ⟨rfl, h4, g4⟩
            have H5 := hide (h4.trans (congrArg (fun l => some (Obj.cells (ab l) 51 (0, 0))) (HNX.out _ (by rw [HYY.out]; rfl))))
            have G5 := hide (grown_trans24 H4.out g4)
            clear h4 g4
            go_wp2
            go_roundw
            case rel => exact ⟨7, by omega, by go_num, H5.out, G5.out⟩
            case measure => simp [intOf]
        · obtain rfl : k = 7 := by omega
          have hY7 : Y.take 7 = Y := by rw [HYY.out]; rfl
          rw [hY7] at H3
          obtain ⟨L2, HL2⟩ : ∃ L2, Hid (L2 = wrs L1 Y) := ⟨_, rfl⟩
          rw [← HL2.out] at H3
          have HLL2 : Hid (L2.length = 512) := by show _ = _; rw [HL2.out]; exact wrs_len HLL1.out HLX.out.2.1
          obtain ⟨k0, k1, k2, k3, k4, k5, k6, k7, k8, k9⟩ := box10 (HBX.out _ BR9.out)
          have hc := ab_cell H3.out (i := 156) (by rw [HLL2.out]; decide)
          have hfz : wr.frozen? ⟨g, 156, none⟩ = false := by simp [World.frozen?, H3.out]
          have hwk : IntKind.u8.wrap (48 + kd) = 48 + kd := by rw [IntKind.wrap_u8]; omega
          have HS1 : Hid ((wr.setCell ⟨g, 156, none⟩ (.int .u8 (48 + kd))).heap[g]? = some (.cells (ab (wrt L2 156 [48 + kd])) 51 (0, 0))) := by
            show _ = _
            rw [ab_setCell H3.out, set_wrt _ _ _ (by rw [HLL2.out]; decide)]
          have G1 := hide (grown_trans24 H4.out (grown_set (grown_refl24 wr g) 156 (.int .u8 (48 + kd))))
          have HLL3 : Hid ((wrt L2 156 [48 + kd]).length = 512) := by show _ = _; rw [wrt_len (by rw [HLL2.out]; simp)]; exact HLL2.out
          have hQ : Hid (Q = wrt (wrt L2 156 [48 + kd]) 257 (sbs mag)) := by
            show _ = _
            rw [HQX.out, HL2.out, HL1.out]
            simp [wrs]
          clear hY7
          go_wp2_with (refine wpList_copyS rfl _ _ rfl g _ _ _ (wrt L2 156 [48 + kd]) 51 HS1.out (by rfl) mag (by rfl) (by decide) (by rw [HLL3.out]; decide) ?_; intro w5 h5 g5 z5; have H5 := hide h5.out; have G5 := hide (grown_trans24 G1.out g5); clear h5 g5 z5 hc hfz hwk k0 k1 k2 k3 k4 k5 k6 k7 k8 k9; have B5 : Hid (Below r wb w5) := B3.out.trans (grown_below24 G5.out (by have := HORD.out; omega) (by have := HORD.out; omega)); have t14 := (HT.out _ B5.out).nm 14 148 rfl; have t15 := (HT.out _ B5.out).nm 15 8 rfl; obtain ⟨w6, hw6⟩ : ∃ w6, w5.alloc (.cells #[.int .i64 148, .int .i64 8] 72) = w6 := ⟨_, rfl⟩)
          obtain ⟨p, hp⟩ : ∃ p, w5.heap.size = p := ⟨_, rfl⟩
          obtain ⟨hB6, hN6⟩ := alloc_box hw6
          rw [hp] at hB6 hN6 ⊢
          have HP6 : Hid (g < p ∧ p < w6.heap.size) := by
            have q1 := G5.out.size
            have q2 := HORD.out
            have q3 := (Array.getElem?_eq_some_iff.1 hN6).1
            show _ ∧ _
            omega
          rw [← hQ.out] at H5
          have H6 : Hid (w6.heap[g]? = some (.cells (ab Q) 51 (0, 0))) := (hB6.block g HP6.out.1).trans H5.out
          have B6 : Hid (Below r wb w6) := B5.out.trans ⟨hB6.os, hB6.tape, hB6.output, by have := hB6.size; omega, fun b hb => hB6.block b (by have := HP6.out; have := HORD.out; omega)⟩
          have G6 : Hid (w3.grownBy w6 (some g)) := grown_trans24 G5.out (by rw [← hp] at hB6; exact below_grown24 hB6)
          have HPC : Hid (∀ wx : World, wx.heap[p]? = w6.heap[p]? → wx.cell? ⟨p, 0, none⟩ = some (.int .i64 148) ∧ wx.cell? ⟨p, 1, none⟩ = some (.int .i64 8)) := fun wx hx => box2 (hx.trans hN6)
          have HSQ : Hid (0 ≤ sumN Q ∧ sumN Q ≤ 255 * (512 : Nat)) := by
            have hl : (wrt Q 148 (List.replicate 8 32)).length = 512 := by rw [wrt_len (by rw [List.length_replicate, HLX.out.2.2.1]; decide)]; exact HLX.out.2.2.1
            have := sum_rng (wrt Q 148 (List.replicate 8 32)) (wrt_rng HLX.out.2.2.2 (fun x hx => by rw [List.eq_of_mem_replicate hx]; decide)) 512
            rw [List.take_of_length_le (by rw [hl]; exact Nat.le_refl _)] at this
            exact this
          obtain ⟨sN, hsN⟩ := Int.eq_ofNat_of_zero_le HSQ.out.1
          have HSN := hide hsN
          have HSL : Hid (sN ≤ 130560) := by have := HSQ.out.2; have := HSN.out; show _ ≤ _; omega
          have HSM : Hid (∀ wx, Below r wb wx → Calls Tryd.prog 37 #[.agg (ab Q)] wx fun e w' => e = .returned (.int .i64 (sN : Nat)) ∧ Below wx.heap.size wx w') := fun wx hb => by
            have := hsum Q wx (HT.out wx hb) HLX.out.2.2.1 HLX.out.2.2.2
            rw [HSN.out] at this
            exact this
          obtain ⟨A, HA⟩ : ∃ A, Hid (A = ab Q) := ⟨_, rfl⟩
          obtain ⟨cp0, cp1⟩ := HPC.out w6 rfl
          have HS6 := hide (And.intro cp0 cp1)
          clear hw6 t14 t15 hB6 hN6 hsN g6 g7 g8 g9 g10 g11 g12 g13
          have HS6D : Hid (w6.drew.cell? ⟨p, 0, none⟩ = some (.int .i64 148) ∧ w6.drew.cell? ⟨p, 1, none⟩ = some (.int .i64 8)) := HS6.out
          have B6D : Hid (Below r wb w6.drew) := below_drewN B6.out 1
          have hw81 : IntKind.i64.wrap 7 = 7 := by decide
          refine wp_region_held_drew (S := (fun W => W.cell? ⟨p, 0, none⟩ = some (.int .i64 148) ∧ W.cell? ⟨p, 1, none⟩ = some (.int .i64 8))) (by kernel_rfl) HS6D.out (fun hHeld => ?_)
          refine wpAnyH_take (i := 0) (v := .pointer (some ⟨p, 0, none⟩)) rfl (by kernel_rfl) (by kernel_rfl) (by kernel_rfl) (fun _ _ _ h => h) (Or.inl ⟨by kernel_rfl, ?_⟩) hHeld ?_
          · intro W hSw
            have s1 := hSw.1
            have s2 := hSw.2
            go_simp
          show wpAnyH _ _ _ _ _ _ _ (Act.put _ (some 71) _) _
          simp only [Act.put, List.setIfInBounds_toArray, List.set_cons_zero, List.set_cons_succ]
          refine wpAnyH_take (i := 1) (v := .int .i64 148) rfl (by kernel_rfl) (by kernel_rfl) (by kernel_rfl) (fun _ _ _ h => h) (Or.inl ⟨by kernel_rfl, ?_⟩) hHeld ?_
          · intro W hSw
            have s1 := hSw.1
            have s2 := hSw.2
            go_simp
          show wpAnyH _ _ _ _ _ _ _ (Act.put _ (some 72) _) _
          simp only [Act.put, List.setIfInBounds_toArray, List.set_cons_zero, List.set_cons_succ]
          refine wpAnyH_take (i := 2) (v := .pointer (some ⟨p, 1, none⟩)) rfl (by kernel_rfl) (by kernel_rfl) (by kernel_rfl) (fun _ _ _ h => h) (Or.inl ⟨by kernel_rfl, ?_⟩) hHeld ?_
          · intro W hSw
            have s1 := hSw.1
            have s2 := hSw.2
            go_simp
          show wpAnyH _ _ _ _ _ _ _ (Act.put _ (some 73) _) _
          simp only [Act.put, List.setIfInBounds_toArray, List.set_cons_zero, List.set_cons_succ]
          refine wpAnyH_take (i := 3) (v := .int .i64 8) rfl (by kernel_rfl) (by kernel_rfl) (by kernel_rfl) (fun _ _ _ h => h) (Or.inl ⟨by kernel_rfl, ?_⟩) hHeld ?_
          · intro W hSw
            have s1 := hSw.1
            have s2 := hSw.2
            go_simp
          show wpAnyH _ _ _ _ _ _ _ (Act.put _ (some 74) _) _
          simp only [Act.put, List.setIfInBounds_toArray, List.set_cons_zero, List.set_cons_succ]
          refine wpAnyH_take (i := 4) (v := .int .i64 7) rfl (by kernel_rfl) (by kernel_rfl) (by kernel_rfl) (fun _ _ _ h => h) (Or.inl ⟨by kernel_rfl, ?_⟩) hHeld ?_
          · intro W hSw
            have s1 := hSw.1
            have s2 := hSw.2
            go_simp
          show wpAnyH _ _ _ _ _ _ _ (Act.put _ (some 75) _) _
          simp only [Act.put, List.setIfInBounds_toArray, List.set_cons_zero, List.set_cons_succ]
          refine wpAnyH_take (i := 5) (v := .agg #[.int .i64 148, .int .i64 7]) rfl (by kernel_rfl) (by kernel_rfl) (by kernel_rfl) (fun _ _ _ h => h) (Or.inl ⟨by kernel_rfl, ?_⟩) hHeld ?_
          · intro W hSw
            have s1 := hSw.1
            have s2 := hSw.2
            go_simp
          show wpAnyH _ _ _ _ _ _ _ (Act.put _ (some 76) _) _
          simp only [Act.put, List.setIfInBounds_toArray, List.set_cons_zero, List.set_cons_succ]
          refine wpAnyH_ready (rs := [6]) (by kernel_rfl) (by simp) ?_
          refine AllReadyH.cons rfl (fun K hK => ?_) AllReadyH.nil
          refine step_ld512 (by rfl) _ (by rfl) g Q HLX.out.2.2.1 H6.out (by simp [Act.eval, Act.put]) ?_
          refine hK.out _ _ HS6D.out (fun hHeld1 => ?_)
          clear hK K
          try simp only [Act.put, List.setIfInBounds_toArray, List.set_cons_zero, List.set_cons_succ]
          refine wpAnyH_ready (rs := [7]) (by kernel_rfl) (by simp) ?_
          refine AllReadyH.cons rfl (fun K hK => ?_) AllReadyH.nil
          go_simp
          refine (HSM.out _ B6D.out).mono ?_
          rintro e w7 ⟨rfl, hb7⟩
          have B7 := hide hb7
          have HZ6 : Hid (w6.heap.size ≤ w7.heap.size) := hb7.size
          have H7 : Hid (w7.heap[g]? = some (.cells (ab Q) 51 (0, 0))) := (hb7.block g (Array.getElem?_eq_some_iff.1 H6.out).1).trans H6.out
          have HP7 : Hid (w7.heap[p]? = w6.heap[p]?) := hb7.block p HP6.out.2
          have HS7 := hide (HPC.out w7 HP7.out)
          have G7 : Hid (w3.grownBy w7 (some g)) := grown_trans24 G6.out ⟨hb7.os, hb7.tape, hb7.output, hb7.size, fun b hb _ => hb7.block b hb⟩
          clear hb7
          simp only []
          refine hK.out _ _ HS7.out (fun hHeld2 => ?_)
          clear hK K
          try simp only [Act.put, List.setIfInBounds_toArray, List.set_cons_zero, List.set_cons_succ]
          refine wpAnyH_ready (rs := [8]) (by kernel_rfl) (by simp) ?_
          refine AllReadyH.cons rfl (fun K hK => ?_) AllReadyH.nil
          go_simp
          refine (hput7 g 148 sN Q _ H7.out HLX.out.2.2.1 (by decide) (by decide) (by have := HSL.out; omega)).mono ?_
          rintro e w8 ⟨rfl, h8, g8⟩
          have H8 := hide h8
          have HS8 := hide (HPC.out w8 ((g8.block p (by have := HZ6.out; have := HP6.out; omega) (fun e => by have := HP6.out; simp only [Option.some.injEq] at e; omega)).trans HP7.out))
          have G8 := hide (grown_trans24 G7.out g8)
          clear h8 g8
          simp only []
          refine hK.out _ _ HS8.out (fun hHeld3 => ?_)
          clear hK K
          try simp only [Act.put, List.setIfInBounds_toArray, List.set_cons_zero, List.set_cons_succ]
          refine wpAnyH_done (by kernel_rfl) ?_ _
          obtain ⟨L5, HL5⟩ : ∃ L5, Hid (L5 = wrt Q 148 (oct sN 6)) := ⟨_, rfl⟩
          rw [← HL5.out] at H8
          have HLL5 : Hid (L5.length = 512) := by show _ = _; rw [HL5.out, wrt_len (by rw [oct_len, HLX.out.2.2.1]; decide)]; exact HLX.out.2.2.1
          have HG9 : Hid ((w8.setCell ⟨g, 155, none⟩ (.int .u8 32)).heap[g]? = some (.cells (ab P) 51 (0, 0))) := by
            show _ = _
            rw [ab_setCell H8.out, set_wrt _ _ _ (by rw [HLL5.out]; decide), HPQ.out, HL5.out, HSN.out]
            simp [wrs]
          have HPL : Hid (P.length = 512) := by
            show _ = _
            have e : P = wrt L5 155 [32] := by rw [HPQ.out, HL5.out, HSN.out]; simp [wrs]
            rw [e, wrt_len (by rw [HLL5.out]; simp)]; exact HLL5.out
          have HR9 : Hid ((w8.setCell ⟨g, 155, none⟩ (.int .u8 32)).heap[r]? = some (.cells (ab z512) 51 (0, 0))) := by
            have q := HORD.out
            show _ = _
            rw [setCell_others _ _ _ _ r (by show r ≠ g; omega), G8.out.block r (by omega) (fun e => by simp only [Option.some.injEq] at e; omega)]
            exact HR3.out
          have B9 : Hid (Below b0 w (w8.setCell ⟨g, 155, none⟩ (.int .u8 32))) := by
            have q := HORD.out
            have h1 : Below b0 w wb := by have := HB.out; rw [HB0.out] at this; exact this
            have h2 := B3.out.trans (grown_below24 G8.out (by omega) (by omega))
            have h3 : Below r wb (w8.setCell ⟨g, 155, none⟩ (.int .u8 32)) := h2.trans (grown_below24 (grown_set (grown_refl24 w8 g) 155 (.int .u8 32)) (by omega) (by have := h2.size; have := HR.out; omega))
            exact h1.trans (h3.mono (by omega))
          obtain ⟨cp0, cp1⟩ := HS8.out
          have hc := ab_cell H8.out (i := 155) (by rw [HLL5.out]; decide)
          have hfz : w8.frozen? ⟨g, 155, none⟩ = false := by simp [World.frozen?, H8.out]
          have hw155 : IntKind.i64.wrap 155 = 155 := by decide
          have hw156 : IntKind.i64.wrap 156 = 156 := by decide
          have HRB : Hid (b0 ≤ r) := by have := HORD.out; show _ ≤ _; omega
          clear hHeld hHeld1 hHeld2 hHeld3 hw81
          go_wp2_with (first | ((with_reducible refine ld512 g P HPL.out ?hx HG9.out ?_); case hx => rfl) | ((with_reducible refine sth512 r P z512 HPL.out z512_len ?hx ?hy HR9.out ?_); (case hx => rfl); (case hy => rfl); intro w10 h10 b10; have H10 := hide h10.out; have B10 := hide (b10 b0 HRB.out); clear h10 b10))
          exact ret512 rfl r P HPL.out (by rfl) H10.out rfl ⟨rfl, by rw [HB0.out]; exact B9.out.trans B10.out⟩
end Go.Proofs.YtaeifigbnlffbaaDoor

