import Derived.Test.YtaeifigbnlffbaaDoorG14Tpo
import Derived.Deep.RegionHeldLaw
namespace Go.Proofs.YtaeifigbnlffbaaDoor
open Go.RowKit Go.Maps
set_option maxRecDepth 20000
set_option linter.unusedVariables false
set_option linter.unusedSimpArgs false

/-! The document's header. -/

def hx1 (f : Fl) : List Int := fil (sbs (cutB f.nm).2.1) 100 ++ fil (oct f.md.toNat 7) 8 ++ fil (oct f.ow.toNat 7) 8 ++ fil (oct f.gr.toNat 7) 8
def hx2 (f : Fl) (t : List Int) : List Int := hx1 f ++ fil (oct f.dt.length 11) 12 ++ fil (oct f.ti.toNat 11) 12 ++ t
def hx3 (f : Fl) (t : List Int) : List Int := hx2 f t ++ [48 + f.kd] ++ fil (sbs f.lk) 100 ++ fil [117, 115, 116, 97, 114] 6 ++ [48, 48] ++ fil (sbs f.us) 32 ++ fil (sbs f.tm) 32
def hx4 (f : Fl) (t : List Int) : List Int := hx3 f t ++ fil (oct 0 7) 8 ++ fil (oct 0 7) 8 ++ fil (sbs (cutB f.nm).1) 155
def hdX (f : Fl) (t : List Int) : List Int := fil (hx4 f t) 512

theorem fil_rng {t : List Int} {n : Nat} (h : ∀ x ∈ t, 0 ≤ x ∧ x < 256) : ∀ x ∈ fil t n, 0 ≤ x ∧ x < 256 := by
  intro x hx
  unfold fil at hx
  have := List.mem_of_mem_take hx
  rw [List.mem_append] at this
  rcases this with q | q
  · exact h x q
  · rw [List.eq_of_mem_replicate q]; decide

def Rg (l : List Int) : Prop := ∀ x ∈ l, 0 ≤ x ∧ x < 256

theorem Rg.app {a b : List Int} (h1 : Rg a) (h2 : Rg b) : Rg (a ++ b) := fun x hx => by
  rcases List.mem_append.1 hx with h | h
  · exact h1 x h
  · exact h2 x h

set_option maxHeartbeats 8000000 in
theorem hxheader (f : Fl) (ao : Option Addr) (cap : Nat) (t : ByteArray) (ht : t.size = 8) (w : World) (hok : Hok f) (hs : f.nm.size ≤ 1048576) :
    Calls Tryd.prog 30 #[.agg (fcs f (.slice ao f.dt.length cap)), .string t] w fun e w' => e = .returned (.string (strOfNums (hdX f (sbs t)))) ∧ Below w.heap.size w w' := by
  obtain ⟨wb, hwb⟩ : ∃ wb, w.alloc (.cells (fcs f (.slice ao f.dt.length cap)) 39) = wb := ⟨_, rfl⟩
  obtain ⟨hB, hN⟩ := alloc_box hwb
  have HB := hide hB
  have HBX : Hid (∀ wx, Below wb.heap.size wb wx → wx.heap[w.heap.size]? = some (.cells (fcs f (.slice ao f.dt.length cap)) 39 (0, 0))) := fun wx hb => by
    rw [hb.block _ (Array.getElem?_eq_some_iff.1 hN).1]; exact hN
  have HC : Hid (∀ wx, Calls Tryd.prog 47 #[.string f.nm] wx fun e w' => e = .returned (.tuple #[.string (cutB f.nm).1, .string (cutB f.nm).2.1, .bool (cutB f.nm).2.2]) ∧ ∃ n, w' = wx.drewN n) := fun wx => hsplit f.nm wx (by omega)
  have HF100 : Hid (∀ (s : ByteArray) (w : World), s.size ≤ 100 → Calls Tryd.prog 32 #[.string s, .int .i64 100] w fun e w' => e = .returned (.string (strOfNums (fil (sbs s) 100))) ∧ Below w.heap.size w w') := fun s w a => hfilled s 100 a (by decide) w
  have HF32 : Hid (∀ (s : ByteArray) (w : World), s.size ≤ 32 → Calls Tryd.prog 32 #[.string s, .int .i64 32] w fun e w' => e = .returned (.string (strOfNums (fil (sbs s) 32))) ∧ Below w.heap.size w w') := fun s w a => hfilled s 32 a (by decide) w
  have HF155 : Hid (∀ (s : ByteArray) (w : World), s.size ≤ 155 → Calls Tryd.prog 32 #[.string s, .int .i64 155] w fun e w' => e = .returned (.string (strOfNums (fil (sbs s) 155))) ∧ Below w.heap.size w w') := fun s w a => hfilled s 155 a (by decide) w
  have HF6 : Hid (∀ (w : World), Calls Tryd.prog 32 #[.string ⟨#[117, 115, 116, 97, 114]⟩, .int .i64 6] w fun e w' => e = .returned (.string (strOfNums (fil [117, 115, 116, 97, 114] 6))) ∧ Below w.heap.size w w') := fun w => hfilled ⟨#[117, 115, 116, 97, 114]⟩ 6 (by decide) (by decide) w
  have HF8 : Hid (∀ (n : Nat) (w : World), Calls Tryd.prog 32 #[.string (strOfNums (oct n 7)), .int .i64 8] w fun e w' => e = .returned (.string (strOfNums (fil (oct n 7) 8))) ∧ Below w.heap.size w w') := fun n w => by
    have := hfilled (strOfNums (oct n 7)) 8 (by rw [son_size, oct_len]; decide) (by decide) w
    rw [sbs_son (oct_byt n 7)] at this
    exact this
  have HF12 : Hid (∀ (n : Nat) (w : World), Calls Tryd.prog 32 #[.string (strOfNums (oct n 11)), .int .i64 12] w fun e w' => e = .returned (.string (strOfNums (fil (oct n 11) 12))) ∧ Below w.heap.size w w') := fun n w => by
    have := hfilled (strOfNums (oct n 11)) 12 (by rw [son_size, oct_len]; decide) (by decide) w
    rw [sbs_son (oct_byt n 11)] at this
    exact this
  have HO7 : Hid (∀ (n : Nat) (w : World), n ≤ 8589934591 → Calls Tryd.prog 31 #[.int .i64 n, .int .i64 7] w fun e w' => e = .returned (.string (strOfNums (oct n 7))) ∧ Below w.heap.size w w') := fun n w a => hoctal n 7 a (by decide) w
  have HO11 : Hid (∀ (n : Nat) (w : World), n ≤ 8589934591 → Calls Tryd.prog 31 #[.int .i64 n, .int .i64 11] w fun e w' => e = .returned (.string (strOfNums (oct n 11))) ∧ Below w.heap.size w w') := fun n w a => hoctal n 11 a (by decide) w
  have HO0 : Hid (∀ (w : World), Calls Tryd.prog 31 #[.int .i64 0, .int .i64 7] w fun e w' => e = .returned (.string (strOfNums (oct 0 7))) ∧ Below w.heap.size w w') := fun w => hoctal 0 7 (by decide) (by decide) w
  have hson := son_size
  have hfl := fil_len
  have hol := oct_len
  have hap := son_app
  have hap0 : ∀ a, strOfNums a ++ ⟨#[48, 48]⟩ = strOfNums (a ++ [48, 48]) := fun a => son_app a [48, 48]
  have hapt : ∀ a, strOfNums a ++ t = strOfNums (a ++ sbs t) := fun a => by
    conv => lhs; rw [← son_sbs t]
    exact son_app a (sbs t)
  have hst := sbs_len t
  rw [ht] at hst
  obtain ⟨so, hso⟩ : ∃ so, Hid (so = strOfNums) := ⟨_, rfl⟩
  obtain ⟨fi, hfi⟩ : ∃ fi, Hid (fi = fil) := ⟨_, rfl⟩
  obtain ⟨oc, hoc⟩ : ∃ oc, Hid (oc = oct) := ⟨_, rfl⟩
  rw [← hso.out] at HF100 HF32 HF155 HF6 HF8 HF12 HO7 HO11 HO0 hson hap hap0 hapt
  rw [← hfi.out] at HF100 HF32 HF155 HF6 HF8 HF12 hfl
  rw [← hoc.out] at HF8 HF12 HO7 HO11 HO0 hol
  obtain ⟨X, HX⟩ : ∃ X, Hid (X = hdX f (sbs t)) := ⟨_, rfl⟩
  rw [← HX.out]
  obtain ⟨nm, lk, us, tm, kd, md, ow, gr, ti, dt⟩ := f
  obtain ⟨g1, g2, g3, g4, g5, g6, g7, g8, g9, g10, g11, g12, g13, g14, g15, g16⟩ := hok
  simp only at HC HBX hwb hN g1 g2 g3 g4 g5 g6 g7 g8 g9 g10 g11 g12 g13 g14 g15 g16
  obtain ⟨ct1, ct2, ct3, hct⟩ : ∃ a b c, cutB nm = (a, b, c) := ⟨_, _, _, rfl⟩
  unfold hdX hx4 hx3 hx2 hx1 at HX
  simp only [hct] at HX
  rw [hct] at HC g1 g2
  simp only at HC g1 g2
  obtain ⟨mdn, rfl⟩ := Int.eq_ofNat_of_zero_le g6
  obtain ⟨own, rfl⟩ := Int.eq_ofNat_of_zero_le g8
  obtain ⟨grn, rfl⟩ := Int.eq_ofNat_of_zero_le g10
  obtain ⟨tin, rfl⟩ := Int.eq_ofNat_of_zero_le g12
  simp only [Int.toNat_natCast] at HX
  obtain ⟨n, HN⟩ : ∃ n, Hid (n = dt.length) := ⟨_, rfl⟩
  rw [← HN.out] at HX g16 HBX hwb hN ⊢
  obtain ⟨k0, k1, k2, k3, k4, k5, k6, k7, k8, k9⟩ := box10 hN
  clear hN hB hct
  go_enter Tryd.func30, Tryd.ntmps30
  go_wp2_with fail
  refine (HC.out _).mono ?_
  rintro e w1 ⟨rfl, n1, hn1⟩
  have B1 : Hid (Below wb.heap.size wb w1) := by show Below _ _ _; rw [hn1]; exact below_drewN (Below.refl _ _) n1
  clear hn1 k0 k1 k2 k3 k4 k5 k6 k7 k8 k9 hwb HC
  have HSB : Hid (∀ wx, Below wb.heap.size wb wx → (wx.cell? ⟨w.heap.size, 5, none⟩ = some (.int .i64 (mdn : Nat)) ∧ wx.cell? ⟨w.heap.size, 6, none⟩ = some (.int .i64 (own : Nat)) ∧ wx.cell? ⟨w.heap.size, 7, none⟩ = some (.int .i64 (grn : Nat)))) := fun wx hb => by
    obtain ⟨-, -, -, -, -, k5, k6, k7, -, -⟩ := box10 (HBX.out _ hb)
    exact ⟨k5, k6, k7⟩
  have HSB3 : Hid (∀ wx, Below wb.heap.size wb wx → (wx.cell? ⟨w.heap.size, 8, none⟩ = some (.int .i64 (tin : Nat)) ∧ wx.cell? ⟨w.heap.size, 9, none⟩ = some (.slice ao n cap))) := fun wx hb => by
    obtain ⟨-, -, -, -, -, -, -, -, k8, k9⟩ := box10 (HBX.out _ hb)
    exact ⟨k8, k9⟩
  have HSB4 : Hid (∀ wx, Below wb.heap.size wb wx → (wx.cell? ⟨w.heap.size, 1, none⟩ = some (.string lk) ∧ wx.cell? ⟨w.heap.size, 2, none⟩ = some (.string us) ∧ wx.cell? ⟨w.heap.size, 3, none⟩ = some (.string tm) ∧ wx.cell? ⟨w.heap.size, 4, none⟩ = some (.int .i64 kd))) := fun wx hb => by
    obtain ⟨-, k1, k2, k3, k4, -, -, -, -, -⟩ := box10 (HBX.out _ hb)
    exact ⟨k1, k2, k3, k4⟩
  obtain ⟨b0, hb0⟩ : ∃ b0, w.heap.size = b0 := ⟨_, rfl⟩
  have HB0 := hide hb0
  rw [hb0] at HSB HSB3 HSB4 HBX ⊢
  have HBB : Hid (∀ wx wy, Below wb.heap.size wb wx → Below wx.heap.size wx wy → Below wb.heap.size wb wy) := fun wx wy h1 h2 => h1.trans (h2.mono h1.size)
  have BC : Hid (Below wb.heap.size wb w1.drew) := below_drewN B1.out 1
  have HS := hide (HSB.out w1.drew BC.out)
  have hg7 : mdn ≤ 8589934591 ∧ own ≤ 8589934591 ∧ grn ≤ 8589934591 := by omega
  go_wp2
  go_region_held3 (fun W => W.cell? ⟨b0, 5, none⟩ = some (.int .i64 (mdn : Nat)) ∧ W.cell? ⟨b0, 6, none⟩ = some (.int .i64 (own : Nat)) ∧ W.cell? ⟨b0, 7, none⟩ = some (.int .i64 (grn : Nat))) (first | exact HS.out)
    (first
      | (go_at_call 31; refine (HO7.out _ _ (by omega)).mono ?_; rintro e w2 ⟨rfl, hb2⟩; have BC := hide (HBB.out _ _ BC.out hb2); have HS := hide (HSB.out _ BC.out); clear hb2)
      | (go_at_call_of 32 (Value.int IntKind.i64 100); refine (HF100.out _ _ (by omega)).mono ?_; rintro e w2 ⟨rfl, hb2⟩; have BC := hide (HBB.out _ _ BC.out hb2); have HS := hide (HSB.out _ BC.out); clear hb2)
      | (go_at_call_of 32 (Value.int IntKind.i64 8); refine (HF8.out _ _).mono ?_; rintro e w2 ⟨rfl, hb2⟩; have BC := hide (HBB.out _ _ BC.out hb2); have HS := hide (HSB.out _ BC.out); clear hb2))
  obtain ⟨v2, hv2⟩ : ∃ v2, v2 = w2 := ⟨_, rfl⟩
  rw [← hv2] at BC ⊢
  have B2 := BC
  have BC : Hid (Below wb.heap.size wb v2.drew) := below_drewN B2.out 1
  have HS := hide (HSB3.out v2.drew BC.out)
  have hg8 : n ≤ 8589934591 ∧ tin ≤ 8589934591 := by omega
  obtain ⟨L1, HL1⟩ : ∃ L : List Int, Hid (L = fi (sbs ct2) 100 ++ (fi (oc mdn 7) 8 ++ (fi (oc own 7) 8 ++ fi (oc grn 7) 8))) := ⟨_, rfl⟩
  have hl1 : L1.length = 124 := by rw [HL1.out]; simp [hfl]
  rw [← HL1.out]
  clear hv2
  go_wp2
  go_region_held3 (fun W => W.cell? ⟨b0, 8, none⟩ = some (.int .i64 (tin : Nat)) ∧ W.cell? ⟨b0, 9, none⟩ = some (.slice ao n cap)) (first | exact HS.out)
    (first
      | (go_at_call 31; refine (HO11.out _ _ (by omega)).mono ?_; rintro e w2 ⟨rfl, hb2⟩; have BC := hide (HBB.out _ _ BC.out hb2); have HS := hide (HSB3.out _ BC.out); clear hb2)
      | (go_at_call 32; refine (HF12.out _ _).mono ?_; rintro e w2 ⟨rfl, hb2⟩; have BC := hide (HBB.out _ _ BC.out hb2); have HS := hide (HSB3.out _ BC.out); clear hb2))
  obtain ⟨v3, hv3⟩ : ∃ v3, v3 = w2 := ⟨_, rfl⟩
  rw [← hv3] at BC ⊢
  have B3 := BC
  obtain ⟨L2, HL2⟩ : ∃ L : List Int, Hid (L = L1 ++ (fi (oc n 11) 12 ++ (fi (oc tin 11) 12 ++ sbs t))) := ⟨_, rfl⟩
  have hl2 : L2.length = 156 := by rw [HL2.out]; simp [hfl, hl1, hst]
  rw [← HL2.out]
  clear hv3
  obtain ⟨x, hx⟩ : ∃ x : Int, x = 48 + kd := ⟨_, rfl⟩
  have hxw : IntKind.u8.wrap (48 + kd) = x := by rw [IntKind.wrap_u8]; omega
  have hxi : IntKind.i64.wrap (48 + kd) = 48 + kd := by rw [IntKind.wrap_i64]; omega
  obtain ⟨L3, hL3⟩ : ∃ L : List Int, L = L2 ++ ([x] ++ (fi (sbs lk) 100 ++ (fi [117, 115, 116, 97, 114] 6 ++ ([48, 48] ++ (fi (sbs us) 32 ++ fi (sbs tm) 32))))) := ⟨_, rfl⟩
  have hl3 : L3.length = 329 := by rw [hL3]; simp [hfl, hl2]
  have HL3 := hide hL3
  clear hL3
  have HX48 := hide hx
  clear hx
  go_wp2
  go_cut [8] from 47 to 69 (fun s8 wx => s8 = .string (so L3) ∧ Hid (Below wb.heap.size wb wx))
  case first =>
    have BC : Hid (Below wb.heap.size wb v3.drew) := below_drewN B3.out 1
    have HS := hide (HSB4.out v3.drew BC.out)
    have HALC : Hid (∀ wx : World, Below wb.heap.size wb wx → Below wb.heap.size wb (wx.alloc (.cells #[.int .u8 x] 5))) := fun wx h => h.alloc h.size _
    have HCX : Hid (∀ wx wy : World, Below (wx.alloc (.cells #[.int .u8 x] 5)).heap.size (wx.alloc (.cells #[.int .u8 x] 5)) wy → wy.cell? ⟨wx.heap.size, 0, none⟩ = some (.int .u8 x)) := fun wx wy h => by
      have e : wy.heap[wx.heap.size]? = some (.cells #[.int .u8 x] 5 (0, 0)) := (h.block _ (by simp)).trans (heap_alloc_new wx _)
      unfold World.cell?; rw [e]; rfl
    have HS0 : Hid ((v3.alloc (.cells #[.int .u8 x] 5)).drew.cell? ⟨b0, 1, none⟩ = some (.string lk) ∧ (v3.alloc (.cells #[.int .u8 x] 5)).drew.cell? ⟨b0, 2, none⟩ = some (.string us) ∧ (v3.alloc (.cells #[.int .u8 x] 5)).drew.cell? ⟨b0, 3, none⟩ = some (.string tm) ∧ (v3.alloc (.cells #[.int .u8 x] 5)).drew.cell? ⟨b0, 4, none⟩ = some (.int .i64 kd)) := HSB4.out _ (below_drewN (HALC.out v3 B3.out) 1)
    have BC0 : Hid (Below wb.heap.size wb (v3.alloc (.cells #[.int .u8 x] 5)).drew) := below_drewN (HALC.out v3 B3.out) 1
    have HCX0 : Hid (∀ wy : World, Below (v3.alloc (.cells #[.int .u8 x] 5)).drew.heap.size (v3.alloc (.cells #[.int .u8 x] 5)).drew wy → wy.cell? ⟨v3.heap.size, 0, none⟩ = some (.int .u8 x) ∧ Below wb.heap.size wb wy) := fun wy h => ⟨HCX.out v3 wy ⟨h.os, h.tape, h.output, h.size, h.block⟩, HBB.out _ _ BC0.out h⟩
    have HCK : Hid (∀ (wx wy : World) (g : Nat), wx.cell? ⟨g, 0, none⟩ = some (.int .u8 x) → Below wx.heap.size wx wy → wy.cell? ⟨g, 0, none⟩ = some (.int .u8 x)) := fun wx wy g h hb => (hb.cell (World.block_lt_of_cell? wx _ h)).trans h
    have hcv : ∀ (g : Nat) (wx : World), wx.cell? ⟨g, 0, none⟩ = some (.int .u8 x) → (convert 22 9 (.slice (some ⟨g, 0, none⟩) 1 1)).run Tryd.prog wx = .ok (.string (so [x])) wx := fun g wx h => by rw [hso.out]; exact sb_convert (sb_one wx g 1 x h (by decide) (by decide))
    go_region_held_law (fun W => W.cell? ⟨b0, 1, none⟩ = some (.string lk) ∧ W.cell? ⟨b0, 2, none⟩ = some (.string us) ∧ W.cell? ⟨b0, 3, none⟩ = some (.string tm) ∧ W.cell? ⟨b0, 4, none⟩ = some (.int .i64 kd)) (first | exact HS.out | exact HS0.out | exact HSB4.out _ (HALC.out _ BC.out))
      (first
        | (go_at_call_of 32 (Value.int IntKind.i64 100); refine (HF100.out _ _ (by omega)).mono ?_; rintro e w2 ⟨rfl, hb2⟩; (first | (have hcx := (HCX0.out _ hb2).1; have BC := hide (HCX0.out _ hb2).2) | (have hcx := HCX.out _ _ hb2; have BC := hide (HBB.out _ _ (HALC.out _ BC.out) hb2)) | (have hcx := HCK.out _ _ _ hcx hb2; have BC := hide (HBB.out _ _ BC.out hb2)) | have BC := hide (HBB.out _ _ BC.out hb2)); have HS := hide (HSB4.out _ BC.out); clear hb2)
        | (go_at_call_of 32 (Value.int IntKind.i64 6); refine (HF6.out _).mono ?_; rintro e w2 ⟨rfl, hb2⟩; (first | (have hcx := (HCX0.out _ hb2).1; have BC := hide (HCX0.out _ hb2).2) | (have hcx := HCX.out _ _ hb2; have BC := hide (HBB.out _ _ (HALC.out _ BC.out) hb2)) | (have hcx := HCK.out _ _ _ hcx hb2; have BC := hide (HBB.out _ _ BC.out hb2)) | have BC := hide (HBB.out _ _ BC.out hb2)); have HS := hide (HSB4.out _ BC.out); clear hb2)
        | (go_at_call_of 32 (Value.string us); refine (HF32.out us _ (by omega)).mono ?_; rintro e w2 ⟨rfl, hb2⟩; (first | (have hcx := (HCX0.out _ hb2).1; have BC := hide (HCX0.out _ hb2).2) | (have hcx := HCX.out _ _ hb2; have BC := hide (HBB.out _ _ (HALC.out _ BC.out) hb2)) | (have hcx := HCK.out _ _ _ hcx hb2; have BC := hide (HBB.out _ _ BC.out hb2)) | have BC := hide (HBB.out _ _ BC.out hb2)); have HS := hide (HSB4.out _ BC.out); clear hb2)
        | (go_at_call_of 32 (Value.string tm); refine (HF32.out tm _ (by omega)).mono ?_; rintro e w2 ⟨rfl, hb2⟩; (first | (have hcx := (HCX0.out _ hb2).1; have BC := hide (HCX0.out _ hb2).2) | (have hcx := HCX.out _ _ hb2; have BC := hide (HBB.out _ _ (HALC.out _ BC.out) hb2)) | (have hcx := HCK.out _ _ _ hcx hb2; have BC := hide (HBB.out _ _ BC.out hb2)) | have BC := hide (HBB.out _ _ BC.out hb2)); have HS := hide (HSB4.out _ BC.out); clear hb2))
    all_goals (go_wp2; go_meet; case rel => exact ⟨by rw [HL3.out]; rfl, by first | exact BC.out | exact HALC.out _ BC.out | exact BC0.out⟩)
  case rest =>
  obtain ⟨rfl, BC⟩ := hcut
  have hl4 : (L3 ++ (fi (oc 0 7) 8 ++ (fi (oc 0 7) 8 ++ fi (sbs ct1) 155))).length = 500 := by simp [hfl, hl3]
  have HFF : Hid (∀ wx : World, Calls Tryd.prog 32 #[.string (so (L3 ++ (fi (oc 0 7) 8 ++ (fi (oc 0 7) 8 ++ fi (sbs ct1) 155)))), .int .i64 512] wx fun e w' => e = .returned (.string (so (fi (sbs (so (L3 ++ (fi (oc 0 7) 8 ++ (fi (oc 0 7) 8 ++ fi (sbs ct1) 155))))) 512))) ∧ Below wx.heap.size wx w') := fun wx => by
    rw [hfi.out] at hl4 ⊢
    rw [hso.out]
    exact hfilled (strOfNums _) 512 (by rw [son_size, hl4]; decide) (by decide) wx
  go_wp2_with (first
    | (go_at_call 31; refine (HO0.out _).mono ?_; rintro e w2 ⟨rfl, hb2⟩; have BC := hide (HBB.out _ _ BC.out hb2); clear hb2)
    | (go_at_call_of 32 (Value.int IntKind.i64 8); refine (HF8.out 0 _).mono ?_; rintro e w2 ⟨rfl, hb2⟩; have BC := hide (HBB.out _ _ BC.out hb2); clear hb2)
    | (go_at_call_of 32 (Value.int IntKind.i64 155); refine (HF155.out ct1 _ g1).mono ?_; rintro e w2 ⟨rfl, hb2⟩; have BC := hide (HBB.out _ _ BC.out hb2); clear hb2)
    | (go_at_call_of 32 (Value.int IntKind.i64 512); refine (HFF.out _).mono ?_; rintro e w2 ⟨rfl, hb2⟩; have BC := hide (HBB.out _ _ BC.out hb2); clear hb2))
  obtain ⟨LL, hLL⟩ : ∃ LL, LL = L3 ++ (fi (oc 0 7) 8 ++ (fi (oc 0 7) 8 ++ fi (sbs ct1) 155)) := ⟨_, rfl⟩
  have hX : X = fi LL 512 := by
    rw [HX.out, hLL, HL3.out, HL2.out, HL1.out, hfi.out, hoc.out, HX48.out]
    simp only [List.append_assoc, List.cons_append, List.nil_append]
  have hR : Rg LL := by
    have hof : ∀ n d k, Rg (fi (oc n d) k) := fun n d k => by rw [hfi.out, hoc.out]; exact fil_rng (oct_byt n d)
    have hsf : ∀ s k, Rg (fi (sbs s) k) := fun s k => by rw [hfi.out]; exact fil_rng (sbs_rng s)
    have h1 : Rg L1 := by rw [HL1.out]; exact (hsf _ _).app ((hof _ _ _).app ((hof _ _ _).app (hof _ _ _)))
    have h2 : Rg L2 := by rw [HL2.out]; exact h1.app ((hof _ _ _).app ((hof _ _ _).app (sbs_rng t)))
    have hx1 : Rg [x] := fun y hy => by
      have := HX48.out
      simp at hy; omega
    have hus : Rg (fi [117, 115, 116, 97, 114] 6) := by rw [hfi.out]; exact fil_rng (by decide)
    have h00 : Rg [48, 48] := by unfold Rg; decide
    have h3 : Rg L3 := by rw [HL3.out]; exact h2.app (hx1.app ((hsf _ _).app (hus.app (h00.app ((hsf _ _).app (hsf _ _))))))
    rw [hLL]
    exact h3.app ((hof _ _ _).app ((hof _ _ _).app (hsf _ _)))
  rw [← hLL]
  go_ret
  refine ⟨?_, by rw [HB0.out]; have h := HB.out; rw [HB0.out] at h; exact h.trans (BC.out.mono (by have := h.size; rw [← HB0.out]; exact HB.out.size))⟩
  show Ending.returned (.string (so (fi (sbs (so LL)) 512))) = Ending.returned (.string (strOfNums X))
  rw [hX, hso.out, sbs_son hR]
end Go.Proofs.YtaeifigbnlffbaaDoor

