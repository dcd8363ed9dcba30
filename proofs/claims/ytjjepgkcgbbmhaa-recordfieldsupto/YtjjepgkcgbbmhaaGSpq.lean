import Derived.Test.YtjjepgkcgbbmhaaGSpx
import Derived.Test.YtjjepgkcgbbmhaaGGen
namespace Go.Proofs.Ytjjepgkcgbbmhaa
open Go.RowKit Go.Maps
set_option maxRecDepth 20000
set_option linter.unusedVariables false
set_option linter.unusedSimpArgs false

def curP (w : World) (g : Nat) : Nat := match w.cell? ⟨g, 1, none⟩ with
  | some (.int _ p) => p.toNat
  | _ => 0

theorem curP_eq {X : Nat → Prop} {T : Nat} {w : World} {g : Nat} {st : CSt} (h : Cu X T w g st) : curP w g = st.p := by
  obtain ⟨v, h1, _⟩ := h
  obtain ⟨c0, c1, c2⟩ := h1.at
  simp [curP, c1]

theorem sp_bad {d : List Int} {p : Nat} (hB : Byt d) (hp : p ≤ d.length) (h : d.length - p < 4 ∨ d.length - p - 4 < (fld d (p + 2) 2).toNat) : (nextSt (nextSt (nextSt ⟨d, p, 0⟩ ((2 : Nat) : Int)) ((2 : Nat) : Int)) (le (nextL (nextSt ⟨d, p, 0⟩ ((2 : Nat) : Int)) ((2 : Nat) : Int)))).e ≠ 0 := by
  by_cases h1 : d.length < p + 2
  · rw [next_short h1, next_err (e := 20) (by omega), next_err (e := 20) (by omega)]
    show (20 : Int) ≠ 0
    omega
  · obtain ⟨e1, e2⟩ := next_st (d := d) (p := p) (n := 2) (by omega)
    rw [e1]
    by_cases h2 : d.length < p + 2 + 2
    · rw [next_short h2, next_err (e := 20) (by omega)]
      show (20 : Int) ≠ 0
      omega
    · obtain ⟨e3, e4⟩ := next_st (d := d) (p := p + 2) (n := 2) (by omega)
      have hb := fld2 hB (p + 2)
      have hn : le (sub d (p + 2) 2) = (((fld d (p + 2) 2).toNat : Nat) : Int) := by
        rw [Int.toNat_of_nonneg hb.1]
        rfl
      rw [e3, e4, hn, next_short (by omega)]
      show (20 : Int) ≠ 0
      omega

set_option maxHeartbeats 8000000 in
theorem splitExtra_any (s : ByteArray) (w : World) (hs : s.size ≤ 140737488351232) :
    Calls Try.prog 13 #[.string s] w fun e w' => ∃ a c, e = .returned (.tuple #[.slice a (spA (strL s)).1.length c, .int .i64 (spA (strL s)).2]) ∧ OX w' w.heap.size (.slice a (spA (strL s)).1.length c) (spA (strL s)).1 ∧ Below w.heap.size w w' := by
  obtain ⟨d, hd⟩ : ∃ d, d = strL s := ⟨_, rfl⟩
  have hdl : d.length = s.size := by rw [hd]; exact length_strL s
  have HBy : Hid (Byt d) := by rw [hd]; exact byt_strL s
  have HDE := hide hd
  by_cases hbig : (65535 : Int) < (s.size : Int)
  · have HA : Hid (spA (strL s) = ([], 124)) := by show _ = _; unfold spA; rw [if_pos (by rw [← hd]; omega)]
    clear hd
    go_enter Try.func13, Try.ntmps13
    go_wp2
    go_ret2
    rw [HA.out]
    exact ⟨none, 0, rfl, OX.nil _ _, Below.refl _ _⟩
  have HA : Hid (spA (strL s) = spl (d.length + 1) [] d) := by show _ = _; unfold spA; rw [if_neg (by rw [← hd]; omega), ← hd]
  have hd2 : d.length ≤ 65535 := by omega
  clear hd
  go_enter Try.func13, Try.ntmps13
  go_wp2_with (refine wpList_s2b rfl _ rfl s rfl (by omega) ?_)
  intro w1 c1 hsb hb1
  rw [← HDE.out] at hsb
  have HSB := hide hsb
  have HB1 := hide hb1
  clear hsb hb1
  go_wp2_with fail
  have HSB2 : Hid (SB w1 (.slice (some ⟨w.heap.size, 0, none⟩) s.size c1) d) := HSB.out
  refine (newCursor_any _ d w1 HSB2.out (by omega)).mono ?_
  rintro e w2 ⟨g, u, rfl, hr, hb2⟩
  have HB2 := hide (HB1.out.trans (hb2.mono HB1.out.size))
  have HC2 : Hid (Cu (fun k => g ≤ k ∨ k < w1.heap.size) 76 w2 g ⟨d, 0, 0⟩) := (Cx.raw hr hb2 (by omega) HBy.out).cu
  have hg : w.heap.size ≤ g := Nat.le_trans HB1.out.size hr.a
  have HG := hide hg
  clear hr hb2 hg HSB HSB2
  go_wp2
  go_loopw [4, 6, 7, 8] (fun t _ _ _ wr => ∃ (p f : Nat) (T : List Xf) (ta : Option Addr) (tc : Nat), t = .slice ta T.length tc ∧ p ≤ d.length ∧ T.length ≤ p ∧ Hid (d.length - p < f ∧ spl f T (d.drop p) = spl (d.length + 1) [] d) ∧ Hid (OX wr (g + 1) (.slice ta T.length tc) T) ∧ Hid (Cu (fun k => g ≤ k ∨ k < w1.heap.size) 76 wr g ⟨d, p, 0⟩) ∧ Hid (Below w.heap.size w wr)) (fun _ _ _ _ wr => d.length - curP wr g)
  case atStart => exact ⟨0, d.length + 1, [], none, 0, rfl, Nat.zero_le _, Nat.zero_le _, ⟨by omega, by rw [List.drop_zero]⟩, OX.nil _ _, HC2.out, HB2.out⟩
  case round =>
    obtain ⟨p, f, T, ta, tc, rfl, hp, hTp, HSP, HO, HC, HB⟩ := hrel
    have HLF : Hid (Calls Try.prog 34 #[.pointer (some ⟨g, 0, none⟩)] wr fun e w' => e = .returned (.int .i64 ((d.length : Int) - (p : Int))) ∧ ∃ n, w' = wr.drewN n) := left_any HC.out
    go_wp2_with fail
    refine HLF.out.mono ?_
    rintro e wa ⟨rfl, na, hwa⟩
    have HCa : Hid (Cu (fun k => g ≤ k ∨ k < w1.heap.size) 76 wa g ⟨d, p, 0⟩) := by rw [hwa]; exact HC.out.drewN na
    have HOa : Hid (OX wa (g + 1) (.slice ta T.length tc) T) := by rw [hwa]; exact xown_move HO.out (fun _ _ => rfl)
    have HBa : Hid (Below w.heap.size w wa) := by rw [hwa]; exact below_drewN HB.out na
    have HPr : Hid (curP wr g = p) := curP_eq HC.out
    clear hwa HLF HO HC HB
    by_cases hlt : p < d.length
    case neg =>
      have hpe : p = d.length := by omega
      have hz : (d.length : Int) - (p : Int) = 0 := by omega
      have HE : Hid (spA (strL s) = (T, 0)) := by show _ = _; rw [HA.out, ← HSP.out.2, hpe, spl_end]
      clear hpe
      go_wp2
      go_ret2
      rw [HE.out]
      exact ⟨ta, tc, rfl, HOa.out.base (by have := HG.out; omega), HBa.out⟩
    have hz : (0 : Int) < (d.length : Int) - (p : Int) := by omega
    obtain ⟨t1, t2⟩ := spl_turn (T := T) hlt HSP.out.1
    by_cases hbad : d.length - p < 4 ∨ d.length - p - 4 < (fld d (p + 2) 2).toNat
    case pos =>
      have HE : Hid (spA (strL s) = ([], 122)) := by show _ = _; rw [HA.out, ← HSP.out.2, t1 hbad]
      have HN := hide (sp_bad HBy.out hp hbad)
      obtain ⟨s1, hs1⟩ : ∃ s1, s1 = nextSt ⟨d, p, 0⟩ ((2 : Nat) : Int) := ⟨_, rfl⟩
      rw [← hs1] at HN
      obtain ⟨s2, hs2⟩ : ∃ s2, s2 = nextSt s1 ((2 : Nat) : Int) := ⟨_, rfl⟩
      rw [← hs2] at HN
      have HU1 := hide (u16_any HCa.out (B := w.heap.size) HG.out)
      rw [← hs1] at HU1
      have HS2 := hide hs2
      clear t1 t2 hbad hs1 hs2
      go_wp2_with fail
      refine HU1.out.mono ?_
      rintro e wb ⟨rfl, hc, ht⟩
      obtain ⟨x1, hx1⟩ : ∃ x, x = le (nextL ⟨d, p, 0⟩ ((2 : Nat) : Int)) := ⟨_, rfl⟩
      rw [← hx1]
      have HCb := hide hc
      have HBb := hide (HBa.out.trans ht.1)
      clear hc ht hx1 HU1
      go_wp2_with fail
      refine (u16_any HCb.out (B := w.heap.size) HG.out).mono ?_
      rintro e wc ⟨rfl, hc, ht⟩
      rw [← HS2.out] at hc
      obtain ⟨x2, hx2⟩ : ∃ x, x = le (nextL s1 ((2 : Nat) : Int)) := ⟨_, rfl⟩
      rw [← hx2] at HN ⊢
      have HCc := hide hc
      have HBc := hide (HBb.out.trans ht.1)
      clear hc ht hx2 HCb HBb
      go_wp2_with fail
      refine (text_any HCc.out x2 (B := w.heap.size) HG.out).mono ?_
      rintro e wd ⟨rfl, hc, ht⟩
      obtain ⟨s3, hs3⟩ : ∃ s3, s3 = nextSt s2 x2 := ⟨_, rfl⟩
      rw [← hs3] at hc HN
      obtain ⟨y, hy⟩ : ∃ y, y = strOfNums (nextL s2 x2) := ⟨_, rfl⟩
      rw [← hy]
      have HCd := hide hc
      have HBd := hide (HBc.out.trans ht.1)
      clear hc ht hs3 hy HCc HBc
      go_wp2_with fail
      refine (err_any HCd.out).mono ?_
      rintro e we ⟨rfl, hwe⟩
      subst hwe
      obtain ⟨E, hE⟩ : ∃ E, E = s3.e := ⟨_, rfl⟩
      rw [← hE] at HN ⊢
      have hne : (E != 0) = true := by simpa using HN.out
      clear hE
      go_wp2
      go_ret2
      rw [HE.out]
      exact ⟨none, 0, rfl, OX.nil _ _, HBd.out⟩
    obtain ⟨f', hf', hsp⟩ := t2 hbad
    have hb := fld2 HBy.out (p + 2)
    have hb0 := fld2 HBy.out p
    obtain ⟨n, hn⟩ : ∃ n : Nat, n = (fld d (p + 2) 2).toNat := ⟨_, rfl⟩
    have HNI : Hid (fld d (p + 2) 2 = (n : Int)) := by show _ = _; omega
    rw [← hn] at hsp hf' hbad
    have hfit : p + 4 + n ≤ d.length := by omega
    obtain ⟨tag, htag⟩ : ∃ tag, tag = fld d p 2 := ⟨_, rfl⟩
    obtain ⟨st, hst⟩ : ∃ st, st = strOfNums (sub d (p + 4) n) := ⟨_, rfl⟩
    rw [← htag, ← hst] at hsp
    have HTG := hide htag
    have HST := hide hst
    clear htag hst
    have HNX : Hid (d.length - (p + 4 + n) < f' ∧ spl f' (T ++ [(tag, st)]) (d.drop (p + 4 + n)) = spl (d.length + 1) [] d) := ⟨hf', by rw [← hsp]; exact HSP.out.2⟩
    have HU1 : Hid (Calls Try.prog 35 #[.pointer (some ⟨g, 0, none⟩)] wa fun e w' => e = .returned (.int .i64 tag) ∧ Cu (fun k => g ≤ k ∨ k < w1.heap.size) 76 w' g ⟨d, p + 2, 0⟩ ∧ Tch w.heap.size g wa w') := by
      obtain ⟨e1, e2⟩ := next_st (d := d) (p := p) (n := 2) (by omega)
      have := u16_any HCa.out (B := w.heap.size) HG.out
      rw [e1, e2] at this
      rw [HTG.out]
      exact this
    clear t1 t2 hbad hsp hf' hb hb0 hn
    go_wp2_with fail
    refine HU1.out.mono ?_
    rintro e wb ⟨rfl, hc, ht⟩
    have HBb := hide (HBa.out.trans ht.1)
    have HOb := hide (ox_step HOa.out ht)
    have HU2 : Hid (Calls Try.prog 35 #[.pointer (some ⟨g, 0, none⟩)] wb fun e w' => e = .returned (.int .i64 (n : Int)) ∧ Cu (fun k => g ≤ k ∨ k < w1.heap.size) 76 w' g ⟨d, p + 4, 0⟩ ∧ Tch w.heap.size g wb w') := by
      obtain ⟨e1, e2⟩ := next_st (d := d) (p := p + 2) (n := 2) (by omega)
      have := u16_any hc (B := w.heap.size) HG.out
      rw [e1, e2, show le (sub d (p + 2) 2) = fld d (p + 2) 2 from rfl, HNI.out] at this
      exact this
    clear hc ht HU1 HBa HOa
    go_wp2_with fail
    refine HU2.out.mono ?_
    rintro e wc ⟨rfl, hc, ht⟩
    have HBc := hide (HBb.out.trans ht.1)
    have HOc := hide (ox_step HOb.out ht)
    have HTX : Hid (Calls Try.prog 36 #[.pointer (some ⟨g, 0, none⟩), .int .i64 (n : Int)] wc fun e w' => e = .returned (.string st) ∧ Cu (fun k => g ≤ k ∨ k < w1.heap.size) 76 w' g ⟨d, p + 4 + n, 0⟩ ∧ Tch w.heap.size g wc w') := by
      obtain ⟨e1, e2⟩ := next_st (d := d) (p := p + 4) (n := n) (by omega)
      have := text_any hc (n : Int) (B := w.heap.size) HG.out
      rw [e1, e2] at this
      rw [HST.out]
      exact this
    clear hc ht HU2 HBb HOb
    go_wp2_with fail
    refine HTX.out.mono ?_
    rintro e wd ⟨rfl, hc, ht⟩
    have HBd := hide (HBc.out.trans ht.1)
    have HOd := hide (ox_step HOc.out ht)
    have HCd := hide hc
    have HER : Hid (Calls Try.prog 37 #[.pointer (some ⟨g, 0, none⟩)] wd fun e w' => e = .returned (.int .i64 0) ∧ w' = wd) := err_any hc
    have HGl : Hid (g + 1 ≤ wd.heap.size) := hc.lt
    clear hc ht HTX HBc HOc
    go_wp2_with fail
    refine HER.out.mono ?_
    rintro e we ⟨rfl, hwe⟩
    subst hwe
    go_wp2_with (at_builtin; refine wpExt rfl _ _ rfl (g + 1) (.slice ta T.length tc) T tag st rfl HOd.out _ rfl (by omega) HGl.out ?_)
    intro v3 w3 ho3 hg3
    have HC3 := hide (cu_grow HCd.out HOd.out hg3)
    have HB3 : Hid (Below w.heap.size w w3) := (HBd.out.alloc HBd.out.size _).grown hg3 (by rw [size_alloc']; have := HBd.out.size; omega) (fun j hj => by have := (HOd.out.lt j hj).1; have := HG.out; omega)
    obtain ⟨a3, c3, hv3, k3, k4⟩ := ho3.shape
    subst hv3
    have HO3 := hide ho3
    have HPn : Hid (curP w3 g = p + 4 + n) := curP_eq HC3.out
    clear ho3 hg3
    go_wp2
    go_roundw
    case rel => exact ⟨p + 4 + n, f', T ++ [(tag, st)], a3, c3, rfl, hfit, by rw [List.length_append]; simp; omega, HNX.out, HO3.out, HC3.out, HB3.out⟩
    case measure =>
      rw [HPn.out, HPr.out]
      omega
end Go.Proofs.Ytjjepgkcgbbmhaa

