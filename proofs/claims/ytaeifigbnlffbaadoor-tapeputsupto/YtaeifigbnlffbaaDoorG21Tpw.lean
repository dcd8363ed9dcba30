import Derived.Test.YtaeifigbnlffbaaDoorG19Tpu
import Derived.Test.YtaeifigbnlffbaaDoorG20Tpx
namespace Go.Proofs.YtaeifigbnlffbaaDoor
open Go.RowKit Go.Maps
set_option maxRecDepth 20000
set_option linter.unusedVariables false
set_option linter.unusedSimpArgs false

/-! The document's Put. -/

theorem hdX_rng {f : Fl} (h : Hok f) {t : List Int} (ht : Rg t) : Rg (hdX f t) := by
  have hkd : Rg [48 + f.kd] := fun x hx => by
    have := h.kd0
    have := h.kd1
    simp at hx; omega
  have hof : ∀ n d k, Rg (fil (oct n d) k) := fun n d k => fil_rng (oct_byt n d)
  have hsf : ∀ s k, Rg (fil (sbs s) k) := fun s k => fil_rng (sbs_rng s)
  have hus : Rg (fil [117, 115, 116, 97, 114] 6) := fil_rng (by decide)
  have h00 : Rg [48, 48] := by unfold Rg; decide
  unfold hdX hx4 hx3 hx2 hx1
  exact fil_rng ((((((((((((((((hsf _ _).app (hof _ _ _)).app (hof _ _ _)).app (hof _ _ _)).app (hof _ _ _)).app (hof _ _ _)).app ht).app hkd).app (hsf _ _)).app hus).app h00).app (hsf _ _)).app (hsf _ _)).app (hof _ _ _)).app (hof _ _ _)).app (hsf _ _))

theorem bcells_son {l : List Int} (h : Rg l) : byteCells (strOfNums l) = l.map (Value.int .u8) := by
  have e : byteCells (strOfNums l) = (sbs (strOfNums l)).map (Value.int .u8) := by
    unfold byteCells sbs
    rw [List.map_map]; rfl
  rw [e, sbs_son h]

theorem son_src {l : List Int} (h : Rg l) (w : World) : Src Tryd.prog 1 9 (.string (strOfNums l)) l.length (l.map (Value.int .u8)) w := by
  have := Src.ofString (P := Tryd.prog) (w := w) Tryd.underlying9 (strOfNums l)
  rw [bcells_son h, son_size] at this
  exact this

theorem hdr_all (f : Fl) (da : Option Addr) (dc : Nat) (hHok : Hok f) (hs : f.nm.size ≤ 1048576) :
    ∃ (s : Nat) (X1 T1 T0 T2 T3 Z : ByteArray) (H : List Int), H = hdP f ∧ H.length = 512 ∧ Rg H ∧ Z = strOfNums H ∧ T1 ++ T0 = T2 ∧ T2 ++ ⟨#[32]⟩ = T3 ∧ T1.size = 6 ∧ T0.size = 1 ∧ T2.size = 7 ∧ T3.size = 8 ∧ s ≤ 200000 ∧
      (∀ wx, Calls Tryd.prog 30 #[.agg (fcs f (.slice da f.dt.length dc)), .string ⟨#[32, 32, 32, 32, 32, 32, 32, 32]⟩] wx fun e w' => e = .returned (.string X1) ∧ Below wx.heap.size wx w') ∧
      (∀ wx, Calls Tryd.prog 29 #[.string X1] wx fun e w' => e = .returned (.int .i64 (s : Nat)) ∧ w' = wx) ∧
      (∀ wx, Calls Tryd.prog 31 #[.int .i64 (s : Nat), .int .i64 6] wx fun e w' => e = .returned (.string T1) ∧ Below wx.heap.size wx w') ∧
      (∀ wx, Calls Tryd.prog 32 #[.string ⟨#[]⟩, .int .i64 1] wx fun e w' => e = .returned (.string T0) ∧ Below wx.heap.size wx w') ∧
      (∀ wx, Calls Tryd.prog 30 #[.agg (fcs f (.slice da f.dt.length dc)), .string T3] wx fun e w' => e = .returned (.string Z) ∧ Below wx.heap.size wx w') := by
  obtain ⟨s, HSM⟩ : ∃ s, Hid (s = (hdX f (List.replicate 8 32)).sum.toNat) := ⟨_, rfl⟩
  have hR8 : Rg (List.replicate 8 (32 : Int)) := fun x hx => by rw [List.eq_of_mem_replicate hx]; decide
  have HRX := hide (hdX_rng hHok hR8)
  have hXl : (hdX f (List.replicate 8 32)).length = 512 := fil_len _ _
  have hsr := sum_rng _ HRX.out 512
  rw [List.take_of_length_le (by omega)] at hsr
  have HSI : Hid ((hdX f (List.replicate 8 32)).sum = (s : Nat)) := by show _ = _; rw [HSM.out]; omega
  have hsb : s ≤ 200000 := by have := HSM.out; omega
  have hRT : Rg (oct s 6 ++ ([0] ++ [32])) := Rg.app (oct_byt s 6) (Rg.app (by unfold Rg; decide) (by unfold Rg; decide))
  have hH : hdP f = hdX f (oct s 6 ++ ([0] ++ [32])) := by rw [hd_same f hHok, ← HSM.out]
  have hc2 : strOfNums (oct s 6 ++ [0]) ++ ⟨#[32]⟩ = strOfNums (oct s 6 ++ ([0] ++ [32])) := by
    rw [← List.append_assoc, ← son_app]; rfl
  refine ⟨s, strOfNums (hdX f (List.replicate 8 32)), strOfNums (oct s 6), strOfNums [0], strOfNums (oct s 6 ++ [0]), strOfNums (oct s 6 ++ ([0] ++ [32])), strOfNums (hdP f), hdP f, rfl, hdP_len hHok, by rw [hH]; exact hdX_rng hHok hRT, rfl, son_app _ _, hc2, by rw [son_size, oct_len], by rw [son_size]; rfl, by rw [son_size, List.length_append, oct_len]; rfl, by rw [son_size, List.length_append, oct_len]; rfl, hsb, ?_, ?_, ?_, ?_, ?_⟩
  · intro wx
    have := hxheader f da dc bl8 rfl wx hHok hs
    rw [bl8_is] at this
    exact this
  · intro wx
    have := htotal (strOfNums (hdX f (List.replicate 8 32))) (by rw [son_size, hXl]; decide) wx
    rw [sbs_son HRX.out, HSI.out] at this
    exact this
  · intro wx
    exact hoctal s 6 (by omega) (by decide) wx
  · intro wx
    exact hfilled ⟨#[]⟩ 1 (by decide) (by decide) wx
  · intro wx
    have := hxheader f da dc (strOfNums (oct s 6 ++ ([0] ++ [32]))) (by rw [son_size, List.length_append, oct_len]; rfl) wx hHok hs
    rw [sbs_son hRT, ← hH] at this
    exact this

theorem own_next {w : World} {v v' : Value} {B b : Nat} (h : ∀ k, v.ownBlock = some k → B ≤ k ∧ k ≠ b) (hat : v'.ownBlock = some w.heap.size ∨ v'.ownBlock = v.ownBlock) (hB : B ≤ w.heap.size) (hb : b < w.heap.size) : ∀ k, v'.ownBlock = some k → B ≤ k ∧ k ≠ b := by
  intro k hk
  rcases hat with q | q
  · rw [q] at hk
    simp only [Option.some.injEq] at hk
    omega
  · exact h k (q ▸ hk)

def QAns (w : World) (L : List Fv) (e : Ending) (w' : World) : Prop := PAns w L e w'

set_option maxHeartbeats 40000000 in
theorem hxPut (v : Value) (L : List Fv) (w : World) (h : RF w v L) (hn : L.length ≤ 1000000) (hd : ∀ p ∈ L, p.1.dt.length ≤ 1048576) (hz : ∀ p ∈ L, p.1.nm.size ≤ 1048576 ∧ p.1.lk.size ≤ 1048576 ∧ p.1.us.size ≤ 1048576 ∧ p.1.tm.size ≤ 1048576) :
    Calls Tryd.prog 18 #[v] w (QAns w L) := by
  have HRF : Hid (∀ wx, Below w.heap.size w wx → RF wx v L) := fun wx hb => h.keep hb
  have HSZ := hide hz
  have HPD : Hid (∀ (n : Nat) (w : World), n ≤ 1000000000000 → Calls Tryd.prog 27 #[.int .i64 n] w fun e w' => e = .returned (.int .i64 (pdd n : Nat)) ∧ w' = w) := fun n w a => hpadded n a w
  obtain ⟨ao, c, rfl, hc1, hc2⟩ := h.shape
  obtain ⟨n, HNN⟩ : ∃ n, Hid (n = L.length) := ⟨_, rfl⟩
  rw [← HNN.out] at HRF hc1 hn ⊢
  have HD := hide hd
  clear h hd hz
  go_enter Tryd.func18, Tryd.ntmps18
  go_wp2
  go_loopw [4, 5] (fun s i wx => ∃ k : Nat, k ≤ n ∧ s = .int .i64 ((1024 + szN (L.take k) : Nat) : Int) ∧ i = .int .i64 k ∧ wx = w) (fun _ i _ => n - (intOf i).toNat)
  case atStart => exact ⟨0, Nat.zero_le _, rfl, rfl, rfl⟩
  case round =>
    obtain ⟨k, hk, rfl, rfl, hwx⟩ := hrel
    by_cases hlt : k < n
    · have hlt' : (k : Int) < (n : Int) := by omega
      obtain ⟨p, hp⟩ : ∃ p, L[k]? = some p := ⟨L[k]'(by have := HNN.out; omega), by simp⟩
      obtain ⟨f, dv⟩ := p
      have hdt := HD.out _ (List.mem_of_getElem? hp)
      simp only at hdt
      have hB0 : Below w.heap.size w wr := by rw [hwx]; exact Below.refl _ _
      obtain ⟨da, dc, hdv, -⟩ := (HRF.out _ hB0).data _ (List.mem_of_getElem? hp)
      simp only at hdv
      subst hdv
      obtain ⟨b, o, c', e, hcell⟩ := (HRF.out _ hB0).get k _ hp
      simp only [Value.slice.injEq] at e
      obtain ⟨rfl, -, -⟩ := e
      have c9 := hcell 9 _ rfl
      have HSN := hide (szN_snoc L hp)
      have hsl := szN_le L HD.out k
      obtain ⟨S, hS⟩ : ∃ S, S = szN (L.take k) := ⟨_, rfl⟩
      rw [← hS] at HSN hsl ⊢
      obtain ⟨m, hm⟩ : ∃ m, m = f.dt.length := ⟨_, rfl⟩
      simp only at HSN
      rw [← hm] at c9 hdt HSN
      have hpb : pdd m ≤ 1049088 := by unfold pdd; omega
      obtain ⟨P, hP⟩ : ∃ P, P = pdd m := ⟨_, rfl⟩
      have HEC := hide (HPD.out m)
      rw [← hP] at HSN HEC hpb
      have hw1 : IntKind.i64.wrap (((1024 + S : Nat) : Int) + 512) = ((1024 + S + 512 : Nat) : Int) := by rw [IntKind.wrap_i64]; omega
      have hw2 : IntKind.i64.wrap (((1024 + S + 512 : Nat) : Int) + (P : Int)) = ((1024 + (S + (512 + P)) : Nat) : Int) := by rw [IntKind.wrap_i64]; omega
      have HWX := hide hwx
      clear hcell hP hm hS hB0 hwx
      go_wp2_with (go_at_call 27; refine (HEC.out _ (by omega)).mono ?_; rintro e w9 ⟨rfl, hq⟩; have hq2 := hq.symm; clear hq; subst hq2)
      go_roundw
      case rel => exact ⟨k + 1, by omega, by rw [HSN.out]; congr 1; omega, by go_num, by first | exact HWX.out | trivial⟩
      case measure => simp [intOf]; omega
    · obtain rfl : k = n := by omega
      have htk : L.take k = L := List.take_of_length_le (by have := HNN.out; omega)
      rw [htk]
      have hsl := szN_le L HD.out k
      rw [htk] at hsl
      obtain ⟨S, HS⟩ : ∃ S, Hid (S = 1024 + szN L) := ⟨_, rfl⟩
      rw [← HS.out]
      have hS2 : S ≤ 1024 + 2000000 * k := by rw [HS.out]; omega
      have HLEN : Hid (k = L.length) := HNN.out
      have HB : Hid (Below w.heap.size w wr) := by show Below _ _ _; rw [hwx]; exact Below.refl _ _
      have HS0 := HS
      clear hsl htk hwx
      by_cases hbig : S ≤ 16777216
      · have hbig' : (S : Int) ≤ 16777216 := by omega
        go_wp2
        go_loopw [6, 7] (fun ov i wx => ∃ j : Nat, j ≤ k ∧ i = .int .i64 j ∧ Below w.heap.size w wx ∧ (∀ p ∈ L.take j, okS p.1 p.1.dt.length = true) ∧ (ents (L.take j)).length = szN (L.take j) ∧ OB wx w.heap.size ov (ents (L.take j))) (fun _ i _ => k - (intOf i).toNat)
        case atStart => exact ⟨0, Nat.zero_le _, rfl, HB.out, fun p hp => by simp at hp, rfl, World.ownsRow_nil _ _ _ _⟩
        case round =>
          obtain ⟨j, hj, rfl, hb, hall, hel, hob⟩ := hrel
          have HB2 := hide hb
          have HALL := hide hall
          have HEL := hide hel
          have HOB := hide hob
          clear hb hall hel hob
          by_cases hlt2 : j < k
          · have hlt2' : (j : Int) < (k : Int) := by omega
            obtain ⟨p, hp⟩ : ∃ p, L[j]? = some p := ⟨L[j]'(by have := HLEN.out; omega), by simp⟩
            obtain ⟨f, dv⟩ := p
            have hmem := List.mem_of_getElem? hp
            have HSBD : Hid (∀ wx, Below w.heap.size w wx → SB wx dv f.dt) := fun wx h => (HRF.out wx h).data _ hmem
            have hdt := HD.out _ hmem
            simp only at hdt
            have HZF := hide (HSZ.out _ hmem)
            obtain ⟨da, dc, hdv, -⟩ := HSBD.out _ HB2.out
            subst hdv
            obtain ⟨b, o, c', e, hcell⟩ := (HRF.out _ HB2.out).get j _ hp
            simp only [Value.slice.injEq] at e
            obtain ⟨rfl, -, -⟩ := e
            have c0 := hcell 0 _ rfl
            have c1 := hcell 1 _ rfl
            have c2 := hcell 2 _ rfl
            have c3 := hcell 3 _ rfl
            have c4 := hcell 4 _ rfl
            have c5 := hcell 5 _ rfl
            have c6 := hcell 6 _ rfl
            have c7 := hcell 7 _ rfl
            have c8 := hcell 8 _ rfl
            have c9 := hcell 9 _ rfl
            rw [Nat.add_zero] at c0
            obtain ⟨wq, hwq⟩ : ∃ wq, wr.alloc (.cells (fcs f (.slice da f.dt.length dc)) 39) = wq := ⟨_, rfl⟩
            obtain ⟨hBq, hNq⟩ := alloc_box hwq
            have HBQ : Hid (Below w.heap.size w wq) := HB2.out.trans (hBq.mono HB2.out.size)
            have HLQ : Hid (wr.heap.size < wq.heap.size) := (Array.getElem?_eq_some_iff.1 hNq).1
            have HQB : Hid (∀ wx, Below wq.heap.size wq wx → wx.heap[wr.heap.size]? = some (.cells (fcs f (.slice da f.dt.length dc)) 39 (0, 0))) := fun wx h => by
              rw [h.block _ (Array.getElem?_eq_some_iff.1 hNq).1]; exact hNq
            have HOB2 := hide (HOB.out.below hBq (Nat.le_refl _))
            have HOL := hide HOB.out.lt
            obtain ⟨ok, hok⟩ : ∃ ok, ok = okS f f.dt.length := ⟨_, rfl⟩
            have HSO : Hid (∀ wx, Calls Tryd.prog 28 #[.agg (fcs f (.slice da f.dt.length dc))] wx fun e w' => e = .returned (.bool ok) ∧ Below wx.heap.size wx w') := fun wx => by
              rw [hok]
              exact hxSound f da dc wx HZF.out.1 HZF.out.2.1 HZF.out.2.2.1 HZF.out.2.2.2 (by omega)
            have HOK := hide hok
            have HMEM := hide hmem
            have HP := hide hp
            obtain ⟨k0, k1, k2, k3, k4, k5, k6, k7, k8, k9⟩ := box10 hNq
            clear hBq hNq hcell hok hmem hp
            go_wp2_with fail
            refine (HSO.out _).mono ?_
            rintro e w2 ⟨rfl, hb2⟩
            have HB3 := hide hb2
            have HB3W : Hid (Below w.heap.size w w2) := HBQ.out.trans (hb2.mono HBQ.out.size)
            clear hb2 k0 k1 k2 k3 k4 k5 k6 k7 k8 k9 c0 c1 c2 c3 c4 c5 c6 c7 c8 c9 hwq
            cases ok with
            | false =>
              go_wp2
              go_ret2
              exact ⟨HB3W.out, .inr (.inl ⟨by have := HS.out; omega, ⟨_, HMEM.out, HOK.out.symm⟩, rfl⟩)⟩
            | true =>
              have hHok := hok_of HOK.out.symm (by omega)
              obtain ⟨s, X1, T1, T0, T2, T3, Z, H, hH, hHL, hRH, hZ, hc1, hc2, hz1, hz0, hz2, hz3, hsb, q1, q2, q3, q4, q5⟩ := hdr_all f da dc hHok HZF.out.1
              have HH := hide hH
              have HHL := hide hHL
              have HRH := hide hRH
              have HZZ := hide hZ
              have HHX1 := hide q1
              have HTOT := hide q2
              have HOC := hide q3
              have HF1 := hide q4
              have HHX2 := hide q5
              clear hH hHL hRH hZ q1 q2 q3 q4 q5 hHok
              have HSTEP : Hid (∀ wx wy, Below wq.heap.size wq wx → Below wx.heap.size wx wy → Below wq.heap.size wq wy) := fun wx wy h1 h2 => h1.trans (h2.mono h1.size)
              obtain ⟨k0, k1, k2, k3, k4, k5, k6, k7, k8, k9⟩ := box10 (HQB.out _ HB3.out)
              go_wp2_with (first
                | (go_at_call 30; refine (HHX1.out _).mono ?_; rintro e w3 ⟨rfl, hb3⟩; have HB4 := hide (HSTEP.out _ _ HB3.out hb3); clear hb3)
                | (go_at_call 29; refine (HTOT.out _).mono ?_; rintro e w9 ⟨rfl, hq⟩; have hq2 := hq.symm; clear hq; subst hq2))
              clear k0 k1 k2 k3 k4 k5 k6 k7 k8 k9
              have HB4D : Hid (Below wq.heap.size wq w3.drew) := below_drewN HB4.out 1
              have HTEN : Hid (∀ wx, Below wq.heap.size wq wx → (wx.cell? ⟨wr.heap.size, 0, none⟩ = some (.string f.nm) ∧ wx.cell? ⟨wr.heap.size, 1, none⟩ = some (.string f.lk) ∧ wx.cell? ⟨wr.heap.size, 2, none⟩ = some (.string f.us) ∧ wx.cell? ⟨wr.heap.size, 3, none⟩ = some (.string f.tm) ∧ wx.cell? ⟨wr.heap.size, 4, none⟩ = some (.int .i64 f.kd) ∧ wx.cell? ⟨wr.heap.size, 5, none⟩ = some (.int .i64 f.md) ∧ wx.cell? ⟨wr.heap.size, 6, none⟩ = some (.int .i64 f.ow) ∧ wx.cell? ⟨wr.heap.size, 7, none⟩ = some (.int .i64 f.gr) ∧ wx.cell? ⟨wr.heap.size, 8, none⟩ = some (.int .i64 f.ti) ∧ wx.cell? ⟨wr.heap.size, 9, none⟩ = some (.slice da f.dt.length dc))) := fun wx h => box10 (HQB.out _ h)
              obtain ⟨bq, HBQN⟩ : ∃ b, Hid (b = wr.heap.size) := ⟨_, rfl⟩
              rw [← HBQN.out] at HTEN ⊢
              have HS := hide (HTEN.out _ HB4D.out)
              have BC := HB4D
              go_wp2
              go_region_held3 (fun W => W.cell? ⟨bq, 0, none⟩ = some (.string f.nm) ∧ W.cell? ⟨bq, 1, none⟩ = some (.string f.lk) ∧ W.cell? ⟨bq, 2, none⟩ = some (.string f.us) ∧ W.cell? ⟨bq, 3, none⟩ = some (.string f.tm) ∧ W.cell? ⟨bq, 4, none⟩ = some (.int .i64 f.kd) ∧ W.cell? ⟨bq, 5, none⟩ = some (.int .i64 f.md) ∧ W.cell? ⟨bq, 6, none⟩ = some (.int .i64 f.ow) ∧ W.cell? ⟨bq, 7, none⟩ = some (.int .i64 f.gr) ∧ W.cell? ⟨bq, 8, none⟩ = some (.int .i64 f.ti) ∧ W.cell? ⟨bq, 9, none⟩ = some (.slice da f.dt.length dc)) (first | exact HS.out)
                (first
                  | (go_at_call 31; refine (HOC.out _).mono ?_; rintro e w4 ⟨rfl, hb4⟩; have BC := hide (HSTEP.out _ _ BC.out hb4); have HS := hide (HTEN.out _ BC.out); clear hb4)
                  | (go_at_call 32; refine (HF1.out _).mono ?_; rintro e w4 ⟨rfl, hb4⟩; have BC := hide (HSTEP.out _ _ BC.out hb4); have HS := hide (HTEN.out _ BC.out); clear hb4)
                  | (go_at_call 30; refine (HHX2.out _).mono ?_; rintro e w4 ⟨rfl, hb4⟩; have BC := hide (HSTEP.out _ _ BC.out hb4); have HS := hide (HTEN.out _ BC.out); clear hb4))
              obtain ⟨wH, hwH⟩ : ∃ v, v = w4 := ⟨_, rfl⟩
              rw [← hwH] at BC ⊢
              have BH := BC
              clear hwH
              have HOBH := hide (HOB2.out.below BH.out (Nat.le_refl _))
              have HBWH : Hid (Below w.heap.size w wH) := HBQ.out.trans (BH.out.mono HBQ.out.size)
              have HBOX : Hid (wH.heap[bq]? = some (.cells (fcs f (.slice da f.dt.length dc)) 39 (0, 0))) := by show _ = _; rw [HBQN.out]; exact HQB.out _ BH.out
              have HBL : Hid (bq < wH.heap.size) := (Array.getElem?_eq_some_iff.1 HBOX.out).1
              have HBS : Hid (w.heap.size ≤ wH.heap.size) := HBWH.out.size
              have HOLB : Hid (∀ k, u6.ownBlock = some k → w.heap.size ≤ k ∧ k < bq) := by rw [HBQN.out]; exact HOL.out
              have HOLB2 : Hid (∀ k, u6.ownBlock = some k → w.heap.size ≤ k ∧ k ≠ bq) := fun k hk => ⟨(HOLB.out k hk).1, by have := (HOLB.out k hk).2; omega⟩
              have HSNC := hide (szN_snoc L HP.out)
              have HTL := hide (szN_take_le L (j + 1))
              obtain ⟨D, HDD⟩ : ∃ D, Hid (D = ents (L.take j)) := ⟨_, rfl⟩
              rw [← HDD.out] at HOBH HEL
              have hPM : f.dt.length ≤ pdd f.dt.length ∧ pdd f.dt.length ≤ 1049088 := by unfold pdd; omega
              obtain ⟨P, HPP⟩ : ∃ P, Hid (P = pdd f.dt.length) := ⟨_, rfl⟩
              rw [← HPP.out] at hPM HSNC
              try simp only at HSNC
              have HEC : Hid (∀ w : World, Calls Tryd.prog 27 #[.int .i64 (f.dt.length : Nat)] w fun e w' => e = .returned (.int .i64 (P : Nat)) ∧ w' = w) := fun w => by rw [HPP.out]; exact HPD.out _ w (by omega)
              have HDL : Hid (D.length + 512 + P + 1024 ≤ 16777216) := by
                have q1 := HSNC.out
                have q2 := HTL.out
                have q3 := HS0.out
                have q4 := HEL.out
                show _ ≤ _
                omega
              obtain ⟨zn, HZN⟩ : ∃ z, Hid (z = P - f.dt.length) := ⟨_, rfl⟩
              have hwz : IntKind.i64.wrap ((P : Int) - (f.dt.length : Int)) = (zn : Int) := by have := HZN.out; rw [IntKind.wrap_i64]; omega
              go_wp2_with (first
                | (refine wpList_app rfl _ _ 9 rfl w.heap.size _ (.string Z) D H (by rfl) HOBH.out (by rfl) (by rw [HZZ.out]; exact son_src HRH.out _) (by have := HHL.out; have := HDL.out; omega) HBS.out ?_; intro v6 w6 o6 g6; have O6 := hide o6; have HB6 : Hid (Below w.heap.size w w6) := HBWH.out.grown g6.by HBS.out (fun b hb => (HOLB.out b hb).1); have HX6 : Hid (w6.heap[bq]? = some (.cells (fcs f (.slice da f.dt.length dc)) 39 (0, 0))) := ((g6.by.block bq HBL.out (fun e => by have := (HOLB.out _ e.symm).2; omega)).trans HBOX.out); have HL6 : Hid (∀ k, v6.ownBlock = some k → w.heap.size ≤ k ∧ k ≠ bq) := own_next HOLB2.out g6.at HBS.out HBL.out; clear o6 g6; obtain ⟨-, -, -, -, -, -, -, -, -, k9⟩ := box10 HX6.out)
                | (refine wpList_app rfl _ _ 22 rfl w.heap.size _ (.slice da f.dt.length dc) (D ++ H) f.dt (by rfl) O6.out (by rfl) (HSBD.out _ HB6.out).src (by rw [List.length_append]; have := HHL.out; have := HDL.out; omega) HB6.out.size ?_; intro v7 w7 o7 g7; have O7 := hide o7; have HB7 : Hid (Below w.heap.size w w7) := HB6.out.grown g7.by HB6.out.size (fun b hb => (HL6.out b hb).1); have HX7 : Hid (w7.heap[bq]? = some (.cells (fcs f (.slice da f.dt.length dc)) 39 (0, 0))) := ((g7.by.block bq (Array.getElem?_eq_some_iff.1 HX6.out).1 (fun e => (HL6.out _ e.symm).2 rfl)).trans HX6.out); have HL7 : Hid (∀ k, v7.ownBlock = some k → w.heap.size ≤ k ∧ k ≠ bq) := own_next HL6.out g7.at HB6.out.size (Array.getElem?_eq_some_iff.1 HX6.out).1; clear o7 g7))
              have HBX : Hid (∀ wx : World, wx.heap[bq]? = w7.heap[bq]? → wx.cell? ⟨bq, 9, none⟩ = some (.slice da f.dt.length dc)) := fun wx e => by
                obtain ⟨-, -, -, -, -, -, -, -, -, k9⟩ := box10 (e.trans HX7.out)
                exact k9
              have HS := hide (HBX.out w7.drew rfl)
              have HO7D : Hid (OB w7.drew w.heap.size v7 (D ++ H ++ f.dt)) := O7.out
              have HB7D : Hid (Below w.heap.size w w7.drew) := below_drewN HB7.out 1
              have HBL7 : Hid (bq < w7.drew.heap.size) := (Array.getElem?_eq_some_iff.1 HX7.out).1
              clear k9
              go_region_held_law (fun W => W.cell? ⟨bq, 9, none⟩ = some (.slice da f.dt.length dc)) (first | exact HS.out)
                (first
                  | (go_at_call 27; refine (HEC.out _).mono ?_; rintro e w9 ⟨rfl, hq⟩; have hq2 := hq.symm; clear hq; subst hq2)
                  | (refine step_appZ (by rfl) _ _ (by rfl) w.heap.size v7 (D ++ H ++ f.dt) zn (by simp [Act.eval, Act.put]) HO7D.out (by simp [Act.eval, Act.put, hwz]) (by simp only [List.length_append]; have := HHL.out; have := HDL.out; have := HZN.out; omega) HB7D.out.size ?_; intro v8 w8 o8 g8; have O8 := hide o8; have HB8 : Hid (Below w.heap.size w w8) := HB7D.out.grown g8.by HB7D.out.size (fun b hb => (HL7.out b hb).1); have HS := hide (HBX.out w8 (g8.by.block bq HBL7.out (fun e => (HL7.out _ e.symm).2 rfl))); clear o8 g8))
              have HENT : Hid (ents (L.take (j + 1)) = D ++ H ++ f.dt ++ List.replicate zn 0) := by
                show _ = _
                rw [ents_snoc L HP.out, ← HDD.out]
                unfold ent
                rw [← HH.out, HZN.out, HPP.out, List.append_assoc, List.append_assoc]
              have HEL2 : Hid ((ents (L.take (j + 1))).length = szN (L.take (j + 1))) := by
                show _ = _
                rw [HENT.out, HSNC.out]
                simp only [List.length_append, List.length_replicate]
                have := HHL.out
                have := HEL.out
                have := HZN.out
                omega
              have HALL2 : Hid (∀ p ∈ L.take (j + 1), okS p.1 p.1.dt.length = true) := fun p hp => by
                rw [List.take_add_one, HP.out, Option.toList_some, List.mem_append] at hp
                rcases hp with q | q
                · exact HALL.out p q
                · rw [List.mem_singleton.1 q]; exact HOK.out.symm
              go_wp2
              go_roundw
              case rel => exact ⟨j + 1, by omega, by go_num, HB8.out, HALL2.out, HEL2.out, by rw [HENT.out]; exact O8.out⟩
              case measure => simp [intOf]; omega
          · obtain rfl : j = k := by omega
            have htk : L.take j = L := List.take_of_length_le (by have := HLEN.out; omega)
            rw [htk] at HALL HEL HOB
            have hel2 : (ents L).length ≤ 16777216 := by have := HEL.out; have := HS0.out; omega
            have HBS2 := hide HB2.out.size
            have HOLB := hide HOB.out.lt
            go_wp2_with (refine wpList_appZ rfl _ _ rfl w.heap.size _ (ents L) 1024 (by rfl) HOB.out (by rfl) (by omega) HBS2.out ?_; intro v9 w9 o9 g9; have O9 := hide o9; have HB9 : Hid (Below w.heap.size w w9) := HB2.out.grown g9.by HBS2.out (fun b hb => (HOLB.out b hb).1); clear o9 g9)
            go_ret2
            exact ⟨HB9.out, .inr (.inr ⟨by have := HS0.out; omega, HALL.out, _, rfl, O9.out⟩)⟩
      · have hbig' : ¬ (S : Int) ≤ 16777216 := by omega
        go_wp2
        go_ret2
        exact ⟨HB.out, .inl ⟨by have := HS.out; omega, rfl⟩⟩
end Go.Proofs.YtaeifigbnlffbaaDoor

