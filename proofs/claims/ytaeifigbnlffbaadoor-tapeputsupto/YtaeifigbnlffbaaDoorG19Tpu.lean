import Derived.Test.YtaeifigbnlffbaaDoorG16Tpt
import Derived.Test.YtaeifigbnlffbaaDoorG17Tpr
import Derived.Test.YtaeifigbnlffbaaDoorG18Tpv
import Derived.Deep.RegionLaw
namespace Go.Proofs.YtaeifigbnlffbaaDoor
open Go.RowKit Go.Maps
set_option maxRecDepth 20000
set_option linter.unusedVariables false
set_option linter.unusedSimpArgs false

/-! Files in memory; the program's Put. -/

abbrev Fv := Fl × Value

structure RF (w : World) (v : Value) (L : List Fv) : Prop where
  shape : ∃ ao c, v = .slice ao L.length c ∧ L.length ≤ c ∧ c ≤ 9223372036854775807
  get : ∀ i p, L[i]? = some p → ∃ b o c, v = .slice (some ⟨b, o, none⟩) L.length c ∧ ∀ j u, (fcs p.1 p.2)[j]? = some u → w.cell? ⟨b, o + i * 10 + j, none⟩ = some u
  data : ∀ p ∈ L, SB w p.2 p.1.dt

theorem RF.keep {w w' : World} {v : Value} {L : List Fv} (h : RF w v L) (hb : Below w.heap.size w w') : RF w' v L where
  shape := h.shape
  get := fun i p hp => by
    obtain ⟨b, o, c, e, hc⟩ := h.get i p hp
    exact ⟨b, o, c, e, fun j u hu => (hb.cell (World.block_lt_of_cell? w _ (hc j u hu))).trans (hc j u hu)⟩
  data := fun p hp => (h.data p hp).below hb

def szN (L : List Fv) : Nat := (L.map fun p => 512 + pdd p.1.dt.length).sum

theorem hdataBytes (n : Nat) (hn : n ≤ 1000000000000) (w : World) : Calls Tryd.prog 39 #[.int .i64 n] w fun e w' => e = .returned (.int .i64 (pdd n : Nat)) ∧ w' = w := by
  have h1 : IntKind.i64.wrap ((n : Int) + 512) = (n : Int) + 512 := by rw [IntKind.wrap_i64]; omega
  have h2 : IntKind.i64.wrap ((n : Int) + 512 - 1) = (n : Int) + 511 := by rw [IntKind.wrap_i64]; omega
  obtain ⟨q, hq⟩ : ∃ q : Nat, q = (n + 511) / 512 := ⟨_, rfl⟩
  have h3 : ((n : Int) + 511) / 512 = (q : Int) := by omega
  have h5 : ((n : Int) + 512 - 1) / 512 = (q : Int) := by omega
  have h4 : IntKind.i64.wrap ((q : Int) * 512) = (q : Int) * 512 := by rw [IntKind.wrap_i64]; omega
  have HE : Hid ((pdd n : Nat) = q * 512) := by show _ = _; rw [hq]; rfl
  have hqb : q ≤ 10000000000 := by omega
  clear hq
  go_enter Tryd.func39, Tryd.ntmps39
  go_wp2
  go_ret
  exact ⟨by rw [HE.out]; rfl, rfl⟩

theorem hentry (n : Nat) (hn : n ≤ 1000000000000) (w : World) : Calls Tryd.prog 23 #[.int .i64 n] w fun e w' => e = .returned (.int .i64 ((512 + pdd n : Nat) : Int)) ∧ w' = w := by
  have HD := hide (hdataBytes n hn w)
  have hb : pdd n ≤ 2000000000000 := by unfold pdd; omega
  obtain ⟨P, HP⟩ : ∃ P, Hid (P = pdd n) := ⟨_, rfl⟩
  rw [← HP.out] at HD hb ⊢
  go_enter Tryd.func23, Tryd.ntmps23
  go_wp2_with fail
  refine HD.out.mono ?_
  rintro e w1 ⟨rfl, hw⟩
  have hw2 := hw.symm
  clear hw
  subst hw2
  go_wp2
  go_ret
  exact ⟨by simp, rfl⟩

theorem szN_snoc (L : List Fv) {k : Nat} {p : Fv} (h : L[k]? = some p) : szN (L.take (k + 1)) = szN (L.take k) + (512 + pdd p.1.dt.length) := by
  unfold szN
  rw [List.take_add_one, h, Option.toList_some, List.map_append, List.sum_append]
  simp

theorem szN_le (L : List Fv) (hd : ∀ p ∈ L, p.1.dt.length ≤ 1048576) (k : Nat) : szN (L.take k) ≤ 2000000 * k := by
  induction k with
  | zero => simp [szN]
  | succ k ih =>
    cases hp : L[k]? with
    | none =>
      rw [List.take_add_one, hp]
      simp; omega
    | some p =>
      rw [szN_snoc L hp]
      have := hd p (List.mem_of_getElem? hp)
      have : pdd p.1.dt.length ≤ 1049088 := by unfold pdd; omega
      omega

def ent (f : Fl) : List Int := hdP f ++ (f.dt ++ List.replicate (pdd f.dt.length - f.dt.length) 0)
def ents (L : List Fv) : List Int := (L.map fun p => ent p.1).flatten
def tape (L : List Fv) : List Int := ents L ++ List.replicate 1024 0

theorem szN_app (A B : List Fv) : szN (A ++ B) = szN A + szN B := by simp [szN]

theorem szN_take_le (L : List Fv) (k : Nat) : szN (L.take k) ≤ szN L := by
  conv => rhs; rw [← List.take_append_drop k L]
  rw [szN_app]; omega

theorem put_two (D H d : List Int) (S m : Nat) (hH : H.length = 512) (hd : d.length ≤ m) (hS : D.length + 512 + m ≤ S) :
    wrt (wrt (D ++ List.replicate (S - D.length) 0) D.length H) (D.length + 512) d = (D ++ (H ++ (d ++ List.replicate (m - d.length) 0))) ++ List.replicate (S - (D.length + 512 + m)) 0 := by
  have h1 := wrt_mid D H [] [] 0 (S - D.length) D.length rfl (by omega)
  simp only [List.append_nil] at h1
  rw [h1]
  have h2 := wrt_mid (D ++ H) d [] [] 0 (S - D.length - H.length) (D.length + 512) (by rw [List.length_append, hH]) (by omega)
  simp only [List.append_nil, List.append_assoc] at h2
  rw [h2]
  simp only [List.append_assoc]
  congr 3
  rw [List.replicate_append_replicate]
  congr 1
  omega

theorem hok_of {f : Fl} (h : okS f f.dt.length = true) (hd : f.dt.length ≤ 100000000) : Hok f := by
  unfold okS okT okN fitN okK at h
  simp only [Bool.and_eq_true, decide_eq_true_eq] at h
  obtain ⟨⟨⟨h1, h2⟩, ⟨⟨h3, h4⟩, h5⟩, h6⟩, ⟨⟨h7, h8⟩, h9⟩, h10⟩ := h
  have hk : f.kd = 0 ∨ f.kd = 2 ∨ f.kd = 5 := by
    by_cases k0 : f.kd = 0
    · exact .inl k0
    · by_cases k2 : f.kd = 2
      · exact .inr (.inl k2)
      · by_cases k5 : f.kd = 5
        · exact .inr (.inr k5)
        · rw [if_neg k0, if_neg k2, if_neg k5] at h2; cases h2
  have hc : (cutB f.nm).1.size ≤ 155 ∧ (cutB f.nm).2.1.size ≤ 100 := by
    unfold cutB at h1 ⊢
    by_cases q : f.nm.size ≤ 100
    · rw [if_pos q]; exact ⟨by simp only []; exact Nat.zero_le _, q⟩
    · rw [if_neg q] at h1 ⊢
      by_cases q2 : slash f.nm.data.toList (max 1 (f.nm.size - 101)) ≤ 155 ∧ slash f.nm.data.toList (max 1 (f.nm.size - 101)) + 1 < f.nm.size
      · rw [if_pos q2]
        have q3 : max 1 (f.nm.size - 101) ≤ slash f.nm.data.toList (max 1 (f.nm.size - 101)) := by unfold slash; omega
        refine ⟨by simp only [ByteArray.size_extract]; omega, by simp only [ByteArray.size_extract]; omega⟩
      · rw [if_neg q2] at h1; cases h1
  exact ⟨hc.1, hc.2, by omega, by omega, by omega, by omega, by omega, by omega, by omega, by omega, by omega, by omega, by omega, by omega, by omega, hd⟩

theorem hdP_len {f : Fl} (h : Hok f) : (hdP f).length = 512 := by rw [hd_same f h]; exact fil_len _ _

theorem ents_snoc (L : List Fv) {k : Nat} {p : Fv} (h : L[k]? = some p) : ents (L.take (k + 1)) = ents (L.take k) ++ ent p.1 := by
  unfold ents
  rw [List.take_add_one, h, Option.toList_some, List.map_append, List.flatten_append]
  simp

def PAns (w : World) (L : List Fv) (e : Ending) (w' : World) : Prop :=
  Below w.heap.size w w' ∧ ((16777216 < 1024 + szN L ∧ e = .returned (.tuple #[.slice none 0 0, .int .i64 1])) ∨
    (1024 + szN L ≤ 16777216 ∧ (∃ p ∈ L, okS p.1 p.1.dt.length = false) ∧ e = .returned (.tuple #[.slice none 0 0, .int .i64 243])) ∨
    (1024 + szN L ≤ 16777216 ∧ (∀ p ∈ L, okS p.1 p.1.dt.length = true) ∧ ∃ v, e = .returned (.tuple #[v, .int .i64 0]) ∧ OB w' w.heap.size v (tape L)))

set_option maxHeartbeats 4000000 in
theorem hPut (v : Value) (L : List Fv) (w : World) (h : RF w v L) (T : Tbs w) (hn : L.length ≤ 1000000) (hd : ∀ p ∈ L, p.1.dt.length ≤ 1048576) (hz : ∀ p ∈ L, p.1.nm.size ≤ 1048576 ∧ p.1.lk.size ≤ 1048576 ∧ p.1.us.size ≤ 1048576 ∧ p.1.tm.size ≤ 1048576) :
    Calls Tryd.prog 12 #[v] w (PAns w L) := by
  have HRF : Hid (∀ wx, Below w.heap.size w wx → RF wx v L) := fun wx hb => h.keep hb
  have HTB : Hid (∀ wx, Below w.heap.size w wx → Tbs wx) := fun wx hb => T.mono hb
  have HSZ := hide hz
  have HEN : Hid (∀ (n : Nat) (w : World), n ≤ 1000000000000 → Calls Tryd.prog 23 #[.int .i64 n] w fun e w' => e = .returned (.int .i64 ((512 + pdd n : Nat) : Int)) ∧ w' = w) := fun n w a => hentry n a w
  obtain ⟨ao, c, rfl, hc1, hc2⟩ := h.shape
  obtain ⟨n, HNN⟩ : ∃ n, Hid (n = L.length) := ⟨_, rfl⟩
  rw [← HNN.out] at HRF hc1 hn ⊢
  have HD := hide hd
  clear h hd hz T
  go_enter Tryd.func12, Tryd.ntmps12
  go_wp2
  go_loopw [4, 14] (fun s i wx => ∃ k : Nat, k ≤ n ∧ s = .int .i64 ((1024 + szN (L.take k) : Nat) : Int) ∧ i = .int .i64 k ∧ Below w.heap.size w wx) (fun _ i _ => n - (intOf i).toNat)
  case atStart => exact ⟨0, Nat.zero_le _, rfl, rfl, Below.refl _ _⟩
  case round =>
    obtain ⟨k, hk, rfl, rfl, hb⟩ := hrel
    have HB := hide hb
    clear hb
    by_cases hlt : k < n
    · have hlt' : (k : Int) < (n : Int) := by omega
      obtain ⟨p, hp⟩ : ∃ p, L[k]? = some p := ⟨L[k]'(by have := HNN.out; omega), by simp⟩
      obtain ⟨f, dv⟩ := p
      have hdt := HD.out _ (List.mem_of_getElem? hp)
      simp only at hdt
      obtain ⟨da, dc, hdv, -⟩ := (HRF.out _ HB.out).data _ (List.mem_of_getElem? hp)
      simp only at hdv
      subst hdv
      obtain ⟨b, o, c', e, hcell⟩ := (HRF.out _ HB.out).get k _ hp
      simp only [Value.slice.injEq] at e
      obtain ⟨rfl, -, -⟩ := e
      have c0 := hcell 0 _ rfl
      have c1 := hcell 1 _ rfl
      have c2 := hcell 2 _ rfl
      have c3 := hcell 3 _ rfl
      have c4 := hcell 4 _ rfl
      have c5 := hcell 5 _ rfl
      have c6 := hcell 6 _ rfl
      have c7 := hcell 7 _ rfl
      have c8 := hcell 8 _ rfl
      have c9 := hcell 9 _ rfl
      rw [Nat.add_zero] at c0
      have HSN := hide (szN_snoc L hp)
      have hsl := szN_le L HD.out k
      obtain ⟨S, hS⟩ : ∃ S, S = szN (L.take k) := ⟨_, rfl⟩
      rw [← hS] at HSN hsl ⊢
      obtain ⟨m, hm⟩ : ∃ m, m = f.dt.length := ⟨_, rfl⟩
      simp only at HSN
      rw [← hm] at c9 hdt HSN
      have hpb : pdd m ≤ 1049088 := by unfold pdd; omega
      obtain ⟨P, hP⟩ : ∃ P, P = pdd m := ⟨_, rfl⟩
      have HEC := hide (HEN.out m)
      rw [← hP] at HSN HEC hpb
      have HB2 : Hid (Below w.heap.size w (wr.alloc (.cells #[.string f.nm, .string f.lk, .string f.us, .string f.tm, .int .i64 f.kd, .int .i64 f.md, .int .i64 f.ow, .int .i64 f.gr, .int .i64 f.ti, .slice da m dc] 39))) := HB.out.alloc HB.out.size _
      clear hcell hP hm hS
      go_wp2_with (go_at_call 23; refine (HEC.out _ (by omega)).mono ?_; rintro e w9 ⟨rfl, hq⟩; have hq2 := hq.symm; clear hq; subst hq2)
      go_roundw
      case rel => exact ⟨k + 1, by omega, by rw [HSN.out]; congr 1; omega, by go_num, HB2.out⟩
      case measure => simp [intOf]; omega
    · obtain rfl : k = n := by omega
      have htk : L.take k = L := List.take_of_length_le (by have := HNN.out; omega)
      rw [htk]
      have hsl := szN_le L HD.out k
      rw [htk] at hsl
      obtain ⟨S, HS⟩ : ∃ S, Hid (S = 1024 + szN L) := ⟨_, rfl⟩
      rw [← HS.out]
      have hS2 : S ≤ 1024 + 2000000 * k := by rw [HS.out]; omega
      have HLEN : Hid (k = L.length) := HNN.out
      clear hsl htk
      by_cases hbig : S ≤ 16777216
      · have hbig' : (S : Int) ≤ 16777216 := by omega
        go_wp2_with (at_make; refine wpList_mk rfl _ _ rfl _ _ _ _ S S rfl rfl rfl (by first | rfl | (simp; done)) (by omega) (by omega) ?_; intro w1 h1 b1; have H1 : Hid (w1.heap[wr.heap.size]? = some (.cells (ab (List.replicate S 0)) 5 (0, 0))) := (by show _ = _; rw [h1]; simp [ab]); have B1 := hide (HB.out.trans (b1.mono HB.out.size)); have HZ1 := hide b1.size; clear h1 b1)
        obtain ⟨g, hg⟩ : ∃ g, wr.heap.size = g := ⟨_, rfl⟩
        have HGW : Hid (w.heap.size ≤ g ∧ g < w1.heap.size) := by
          have q1 := HB.out.size
          have q2 := (Array.getElem?_eq_some_iff.1 H1.out).1
          show _ ∧ _
          omega
        rw [hg] at H1 ⊢
        clear hg
        go_loopw [8, 31] (fun a i wx => ∃ j : Nat, j ≤ k ∧ a = .int .i64 (szN (L.take j) : Nat) ∧ i = .int .i64 j ∧ Below w.heap.size w wx ∧ w1.heap.size ≤ wx.heap.size ∧ (∀ p ∈ L.take j, okS p.1 p.1.dt.length = true) ∧ (ents (L.take j)).length = szN (L.take j) ∧ wx.heap[g]? = some (.cells (ab (ents (L.take j) ++ List.replicate (S - szN (L.take j)) 0)) 5 (0, 0))) (fun _ i _ => k - (intOf i).toNat)
        case atStart => exact ⟨0, Nat.zero_le _, rfl, rfl, B1.out, Nat.le_refl _, fun p hp => by simp at hp, rfl, by simpa [ents, szN] using H1.out⟩
        case round =>
          obtain ⟨j, hj, rfl, rfl, hb, hsz, hall, hel, hgg⟩ := hrel
          have HB2 := hide hb
          have HSW := hide hsz
          have HALL := hide hall
          have HEL := hide hel
          have HGG := hide hgg
          clear hb hsz hall hel hgg
          by_cases hlt2 : j < k
          · have hlt2' : (j : Int) < (k : Int) := by omega
            obtain ⟨p, hp⟩ : ∃ p, L[j]? = some p := ⟨L[j]'(by have := HLEN.out; omega), by simp⟩
            obtain ⟨f, dv⟩ := p
            have hmem := List.mem_of_getElem? hp
            have HSBD : Hid (∀ wx, Below w.heap.size w wx → SB wx dv f.dt) := fun wx h => (HRF.out wx h).data _ hmem
            have hdt := HD.out _ hmem
            simp only at hdt
            have HZF := hide (HSZ.out _ hmem)
            obtain ⟨da, dc, hdv, -⟩ := HSBD.out _ HB2.out
            subst hdv
            obtain ⟨b, o, c', e, hcell⟩ := (HRF.out _ HB2.out).get j _ hp
            simp only [Value.slice.injEq] at e
            obtain ⟨rfl, -, -⟩ := e
            have c0 := hcell 0 _ rfl
            have c1 := hcell 1 _ rfl
            have c2 := hcell 2 _ rfl
            have c3 := hcell 3 _ rfl
            have c4 := hcell 4 _ rfl
            have c5 := hcell 5 _ rfl
            have c6 := hcell 6 _ rfl
            have c7 := hcell 7 _ rfl
            have c8 := hcell 8 _ rfl
            have c9 := hcell 9 _ rfl
            rw [Nat.add_zero] at c0
            obtain ⟨wq, hwq⟩ : ∃ wq, wr.alloc (.cells (fcs f (.slice da f.dt.length dc)) 39) = wq := ⟨_, rfl⟩
            obtain ⟨hBq, hNq⟩ := alloc_box hwq
            have HBQ : Hid (Below w.heap.size w wq) := HB2.out.trans (hBq.mono HB2.out.size)
            have HORD : Hid (g < wr.heap.size ∧ wr.heap.size < wq.heap.size) := ⟨by have := HGW.out; have := HSW.out; omega, (Array.getElem?_eq_some_iff.1 hNq).1⟩
            have HQB : Hid (∀ wx, Below wq.heap.size wq wx → wx.heap[wr.heap.size]? = some (.cells (fcs f (.slice da f.dt.length dc)) 39 (0, 0))) := fun wx h => by
              rw [h.block _ (Array.getElem?_eq_some_iff.1 hNq).1]; exact hNq
            have HGQ : Hid (wq.heap[g]? = some (.cells (ab (ents (L.take j) ++ List.replicate (S - szN (L.take j)) 0)) 5 (0, 0))) := (hBq.block g HORD.out.1).trans HGG.out
            have HQS : Hid (wr.heap.size ≤ wq.heap.size) := hBq.size
            obtain ⟨ok, hok⟩ : ∃ ok, ok = okS f f.dt.length := ⟨_, rfl⟩
            have HSO : Hid (∀ wx, Below w.heap.size w wx → Calls Tryd.prog 24 #[.agg (fcs f (.slice da f.dt.length dc)), .int .i64 (f.dt.length : Nat)] wx fun e w' => e = .returned (.bool ok) ∧ Below wx.heap.size wx w') := fun wx h => by
              rw [hok]
              exact hsound f _ _ wx (HTB.out wx h) HZF.out.1 HZF.out.2.1 HZF.out.2.2.1 HZF.out.2.2.2
            have HOK := hide hok
            have HMEM := hide hmem
            have HP := hide hp
            obtain ⟨k0, k1, k2, k3, k4, k5, k6, k7, k8, k9⟩ := box10 hNq
            clear hBq hNq hcell hok hmem hp
            go_wp2_with fail
            refine (HSO.out _ HBQ.out).mono ?_
            rintro e w2 ⟨rfl, hb2⟩
            have HB3 := hide hb2
            have HB3W : Hid (Below w.heap.size w w2) := HBQ.out.trans (hb2.mono HBQ.out.size)
            clear hb2 k0 k1 k2 k3 k4 k5 k6 k7 k8 k9 c0 c1 c2 c3 c4 c5 c6 c7 c8 c9 hwq
            cases ok with
            | false =>
              go_wp2
              go_ret2
              exact ⟨HB3W.out, .inr (.inl ⟨by have := HS.out; omega, ⟨_, HMEM.out, HOK.out.symm⟩, rfl⟩)⟩
            | true =>
              have hHok := hok_of HOK.out.symm (by omega)
              have HHD : Hid (∀ wx, Below w.heap.size w wx → Calls Tryd.prog 25 #[.agg (fcs f (.slice da f.dt.length dc))] wx fun e w' => e = .returned (.agg (ab (hdP f))) ∧ Below wx.heap.size wx w') := fun wx h => hheaderOf f da dc wx (HTB.out wx h) hHok HZF.out.1
              obtain ⟨H, HH⟩ : ∃ H, Hid (H = hdP f) := ⟨_, rfl⟩
              have HHL : Hid (H.length = 512) := by show _ = _; rw [HH.out]; exact hdP_len hHok
              rw [← HH.out] at HHD
              clear hHok
              obtain ⟨k0, k1, k2, k3, k4, k5, k6, k7, k8, k9⟩ := box10 (HQB.out _ HB3.out)
              go_wp2_with (first
                | (go_at_call 25; refine (HHD.out _ HB3W.out).mono ?_; rintro e w3 ⟨rfl, hb3⟩; have HB4 := hide (HB3.out.trans (hb3.mono HB3.out.size)); clear hb3)
                | (refine wpList_al512 rfl rfl ?_; intro w4 h4 b4 z4; have H4 := hide h4; have HB5 := hide (HB4.out.trans (b4.mono HB4.out.size)); clear h4 b4 z4)
                | ((with_reducible refine sth512 w3.heap.size H z512 HHL.out z512_len ?hx ?hy H4.out ?_); (case hx => rfl); (case hy => rfl); intro w5 h5 b5; have H5 := hide h5.out; have HB6 := hide (HB5.out.trans (b5 wq.heap.size HB4.out.size)); clear h5 b5))
              have HSNC := hide (szN_snoc L HP.out)
              have HTL := hide (szN_take_le L (j + 1))
              have HEC : Hid (∀ w : World, Calls Tryd.prog 23 #[.int .i64 (f.dt.length : Nat)] w fun e w' => e = .returned (.int .i64 ((512 + pdd f.dt.length : Nat) : Int)) ∧ w' = w) := fun w => HEN.out _ w (by omega)
              obtain ⟨at', HAT⟩ : ∃ a, Hid (a = szN (L.take j)) := ⟨_, rfl⟩
              obtain ⟨D, HDD⟩ : ∃ D, Hid (D = ents (L.take j)) := ⟨_, rfl⟩
              obtain ⟨m, HM⟩ : ∃ m, Hid (m = f.dt.length) := ⟨_, rfl⟩
              obtain ⟨P, HPD⟩ : ∃ P, Hid (P = pdd m) := ⟨_, rfl⟩
              have HPM : Hid (m ≤ P ∧ P ≤ 1049088) := by
                rw [← HM.out] at hdt
                show _ ∧ _
                rw [HPD.out]; unfold pdd; omega
              rw [← HAT.out] at HGQ HEL HSNC
              rw [← HDD.out] at HGQ HEL
              simp only at HSNC
              rw [← HM.out] at HSNC HEC
              rw [← HPD.out] at HSNC HEC
              have hfit1 : at' + 512 + P + 1024 ≤ S ∧ S ≤ 16777216 := by
                have q1 := HSNC.out
                have q2 := HTL.out
                have q3 := HS.out
                omega
              have hA0 : (0 : Int) ≤ (at' : Int) := by omega
              have hA1 : (at' : Int) ≤ (S : Int) := by omega
              have HG6 : Hid (w5.drew.heap[g]? = some (.cells (ab (D ++ List.replicate (S - at') 0)) 5 (0, 0))) := (HB6.out.block g (by have := HORD.out; omega)).trans HGQ.out
              have HSH : Hid (SB w5.drew (.slice (some ⟨w3.heap.size, 0, none⟩) 512 512) H) := by
                have := sb_ab (w := w5.drew) H5.out (by rw [HHL.out]; unfold maxLen; omega)
                rw [HHL.out] at this
                exact this
              have hle1 : H.length ≤ S - at' := by have := HHL.out; omega
              have hfl1 : at' + H.length ≤ (D ++ List.replicate (S - at') 0).length := by rw [List.length_append, List.length_replicate, HEL.out]; have := HHL.out; omega
              rw [← HAT.out, ← HM.out]
              clear k0 k1 k2 k3 k4 k5 k6 k7 k8 k9
              simp only [Act.put, List.setIfInBounds_toArray, List.set_cons_zero, List.set_cons_succ]
              go_region_law (refine step_copyA (by rfl) _ _ (by rfl) g at' (S - at') (S - at') (D ++ List.replicate (S - at') 0) 5 HG6.out (by simp [Act.eval, Act.put]; omega) _ H (by simp [Act.eval, Act.put]) HSH.out hle1 hfl1 ?_; intro w6 h6 g6)
              have HB7 : Hid (Below wq.heap.size wq w6 ∨ True) := .inr trivial
              have HZ6 : Hid (w5.heap.size ≤ w6.heap.size) := g6.size
              have HQ6 : Hid (∀ b, b ≠ g → b < w5.heap.size → w6.heap[b]? = w5.heap[b]?) := fun b q1 q2 => g6.block b q2 (fun e => q1 (by simpa using e))
              have HW6 : Hid (Below w.heap.size w w6) := by
                have h5 : Below w.heap.size w w5 := HBQ.out.trans (HB6.out.mono HBQ.out.size)
                have h5d : Below w.heap.size w w5.drew := below_drewN h5 1
                exact h5d.trans (grown_below24 g6 HGW.out.1 h5.size)
              have hb5 : wr.heap.size < w5.heap.size := by have := HORD.out; have := HB6.out.size; omega
              obtain ⟨k0, k1, k2, k3, k4, k5, k6, k7, k8, k9⟩ := box10 ((HQ6.out _ (by have := HORD.out; omega) hb5).trans (HQB.out _ HB6.out))
              have HG7 : Hid (w6.drew.heap[g]? = some (.cells (ab (wrt (D ++ List.replicate (S - at') 0) at' H)) 5 (0, 0))) := h6.out
              have hsb7 := HSBD.out _ HW6.out
              rw [← HM.out] at k9
              have HSD : Hid (SB w6.drew (.slice da m dc) f.dt) := by
                obtain ⟨ao', cap', e', r1, r2, r3, r4⟩ := hsb7
                rw [HM.out]
                exact ⟨ao', cap', e', r1, r2, r3, r4⟩
              have hle2 : f.dt.length ≤ S - (at' + 512) := by have := HPM.out; have := HM.out; omega
              have hwl : (wrt (D ++ List.replicate (S - at') 0) at' H).length = S := by
                rw [wrt_len hfl1, List.length_append, List.length_replicate, HEL.out]; omega
              have hfl2 : at' + 512 + f.dt.length ≤ (wrt (D ++ List.replicate (S - at') 0) at' H).length := by rw [hwl]; have := HPM.out; have := HM.out; omega
              have hw5 : IntKind.i64.wrap ((at' : Int) + 512) = ((at' + 512 : Nat) : Int) := by rw [IntKind.wrap_i64]; omega
              have hA2 : (0 : Int) ≤ (at' : Int) + 512 := by omega
              have hA3 : (at' : Int) + 512 ≤ (S : Int) := by omega
              have hA4 : ((at' + 512 : Nat) : Int) ≤ (S : Int) := by omega
              have htn : ((at' : Int) + 512).toNat = at' + 512 := by omega
              have hne2 : ¬ S = at' + 512 := by omega
              clear h6 g6 hsb7
              go_wp2
              go_region_law (refine step_copyA (by rfl) _ _ (by rfl) g (at' + 512) (S - (at' + 512)) (S - (at' + 512)) (wrt (D ++ List.replicate (S - at') 0) at' H) 5 HG7.out (by simp [Act.eval, Act.put, htn, hne2]) _ f.dt (by simp [Act.eval, Act.put]) HSD.out hle2 hfl2 ?_; intro w7 h7 g7)
              have hg7 : w6.grownBy w7 (some g) := ⟨g7.os, g7.tape, g7.output, g7.size, g7.block⟩
              have HZ7 : Hid (w6.heap.size ≤ w7.heap.size) := hg7.size
              have HW7 : Hid (Below w.heap.size w w7) := HW6.out.trans (grown_below24 hg7 HGW.out.1 HW6.out.size)
              have HQ7 : Hid (w7.heap[wr.heap.size]? = w6.heap[wr.heap.size]?) := hg7.block _ (by have := HZ6.out; omega) (fun e => by have := HORD.out; simp only [Option.some.injEq] at e; omega)
              have HG8 : Hid (w7.heap[g]? = some (.cells (ab (ents (L.take (j + 1)) ++ List.replicate (S - szN (L.take (j + 1))) 0)) 5 (0, 0))) := by
                have e := h7.out
                have hDl : D.length = at' := HEL.out
                have e2 := put_two D H f.dt S P HHL.out (by have := HPM.out; have := HM.out; omega) (by omega)
                rw [hDl] at e2
                rw [e2] at e
                show _ = _
                rw [e, ents_snoc L HP.out, HSNC.out, ← HDD.out]
                unfold ent
                rw [← HH.out, ← HM.out, ← HPD.out, Nat.add_assoc]
              have HEL2 : Hid ((ents (L.take (j + 1))).length = szN (L.take (j + 1))) := by
                show _ = _
                rw [ents_snoc L HP.out, HSNC.out, ← HDD.out]
                unfold ent
                rw [← HH.out, ← HM.out, ← HPD.out]
                simp only [List.length_append, List.length_replicate, HHL.out, HEL.out]
                have := HPM.out
                have := HM.out
                omega
              have HALL2 : Hid (∀ p ∈ L.take (j + 1), okS p.1 p.1.dt.length = true) := fun p hp => by
                rw [List.take_add_one, HP.out, Option.toList_some, List.mem_append] at hp
                rcases hp with q | q
                · exact HALL.out p q
                · rw [List.mem_singleton.1 q]; exact HOK.out.symm
              have HSW2 : Hid (w1.heap.size ≤ w7.heap.size) := by
                have q1 := HSW.out
                have q2 := HQS.out
                have q3 := HB6.out.size
                have q4 := HZ6.out
                have q5 := HZ7.out
                show _ ≤ _
                omega
              have h6b : w6.heap[wr.heap.size]? = some (.cells (fcs f (.slice da m dc)) 39 (0, 0)) := by
                rw [HM.out]
                exact (HQ6.out _ (by have := HORD.out; omega) hb5).trans (HQB.out _ HB6.out)
              clear k0 k1 k2 k3 k4 k5 k6 k7 k8 k9 h7 g7 hg7
              obtain ⟨k0, k1, k2, k3, k4, k5, k6, k7, k8, k9⟩ := box10 (HQ7.out.trans h6b)
              have hws : IntKind.i64.wrap ((at' : Int) + ((512 + P : Nat) : Int)) = ((at' + (512 + P) : Nat) : Int) := by rw [IntKind.wrap_i64]; omega
              clear h6b hA0 hA1 hA2 hA3 hA4 hw5 htn hne2
              go_wp2_with (go_at_call 23; refine (HEC.out _).mono ?_; rintro e w9 ⟨rfl, hq⟩; have hq2 := hq.symm; clear hq; subst hq2)
              go_roundw
              case rel => exact ⟨j + 1, by omega, by rw [HSNC.out]; congr 1, by go_num, HW7.out, HSW2.out, HALL2.out, HEL2.out, HG8.out⟩
              case measure => simp [intOf]; omega
          · obtain rfl : j = k := by omega
            have htk : L.take j = L := List.take_of_length_le (by have := HLEN.out; omega)
            rw [htk] at HALL HEL HGG
            have HFIN : Hid (OB wr w.heap.size (.slice (some ⟨g, 0, none⟩) S S) (tape L)) := by
              have hsz : S - szN L = 1024 := by have := HS.out; omega
              have hq := HGG.out
              rw [hsz] at hq
              have hl : (tape L).length = S := by
                unfold tape
                rw [List.length_append, List.length_replicate, HEL.out]
                have := HS.out; omega
              have hcl : ab (ents L ++ List.replicate 1024 0) = ab (tape L) := rfl
              rw [hcl] at hq
              have : OB wr w.heap.size (.slice (some ⟨g, 0, none⟩) (tape L).length (tape L).length) (tape L) :=
                ⟨by simp, .inr ⟨g, (tape L).length, ab (tape L), rfl, HGW.out.1, hq, Nat.le_refl _, by rw [hl]; unfold maxLen; omega, by rw [ab_size]; simp, by simp [ab]; exact List.take_of_length_le (by simp)⟩⟩
              rw [hl] at this
              exact this
            go_wp2
            go_ret2
            exact ⟨HB2.out, .inr (.inr ⟨by have := HS.out; omega, HALL.out, _, rfl, HFIN.out⟩)⟩
      · have hbig' : ¬ (S : Int) ≤ 16777216 := by omega
        go_wp2
        go_ret2
        exact ⟨HB.out, .inl ⟨by have := HS.out; omega, rfl⟩⟩
end Go.Proofs.YtaeifigbnlffbaaDoor

