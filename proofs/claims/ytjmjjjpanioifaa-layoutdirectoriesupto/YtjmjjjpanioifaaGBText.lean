import Derived.Test.YtjmjjjpanioifaaGBNum2
namespace Go.Proofs.Ytjmjjjpanioifaa
open Go.RowKit Go.Maps
set_option maxRecDepth 20000

def strL (s : ByteArray) : List Int := s.data.toList.map fun b => (b.toNat : Int)

theorem length_strL (s : ByteArray) : (strL s).length = s.size := by
  unfold strL
  rw [List.length_map, Array.length_toList]
  rfl

theorem byt_strL (s : ByteArray) : Byt (strL s) := by
  intro i
  unfold strL
  generalize s.data.toList = l
  by_cases hi : i < l.length
  · have : (l.map fun b => (b.toNat : Int)).getD i 0 = ((l[i]).toNat : Int) := by simp [List.getD, hi]
    rw [this]
    have := (l[i]).toNat_lt
    omega
  · have : (l.map fun b => (b.toNat : Int)).getD i 0 = 0 := by
      have e : (l.map fun b => (b.toNat : Int))[i]? = none := List.getElem?_eq_none (by simpa using hi)
      simp [List.getD, e]
    rw [this]; decide

theorem src_str (w : World) (s : ByteArray) : Src Try.prog 1 9 (.string s) (strL s).length ((strL s).map (Value.int .u8)) w := by
  have h := Src.ofString (P := Try.prog) w Try.underlying9 s
  rw [length_strL]
  have e : (strL s).map (Value.int .u8) = byteCells s := by
    unfold strL byteCells
    rw [List.map_map]
    rfl
  rw [e]
  exact h

def textSt (st : BSt) (s : ByteArray) : BSt :=
  if st.e ≠ 0 then st else if st.m - st.l.length < s.size then { st with e := 22 } else { st with l := st.l ++ strL s }

theorem btext_any {w : World} {K : Nat → Nat} {g : Nat} {u : Value} {st : BSt} (h : BuV true w K g u st) (s : ByteArray) (hl : ¬ st.m - st.l.length < s.size → st.l.length + s.size ≤ 140737488355328) :
    Calls Try.prog 49 #[.pointer (some ⟨g, 0, none⟩), .string s] w fun e w' => e = .returned (.tuple #[]) ∧ ∃ K', Bu true w' K' g (textSt st s) ∧ Fr K K' w w' := by
  have H := hide h
  clear h
  by_cases he : st.e = 0
  case neg =>
    have HS : Hid (textSt st s = st) := by show _ = _; unfold textSt; rw [if_pos he]
    have he' : (st.e == 0) = false := by simpa using he
    go_enter Try.func49, Try.ntmps49
    go_wp2_with fail
    refine (berr_any H.out).mono ?_
    rintro e w ⟨rfl, rfl⟩
    go_wp2
    (try simp only [Exit.inBlock, Exit.then]); refine bodyPost_end (results_none rfl _ _ _) rfl ?_
    rw [HS.out]
    exact ⟨rfl, K, ⟨u, H.out⟩, Fr.refl _ _⟩
  case pos =>
  have HE := hide he
  by_cases hr : st.m - st.l.length < s.size
  case pos =>
    have HS : Hid (textSt st s = { st with e := 22 }) := by show _ = _; unfold textSt; rw [if_neg (by simp [he]), if_pos hr]
    clear he
    go_enter Try.func49, Try.ntmps49
    go_wp2_with fail
    refine (berr_any H.out).mono ?_
    rintro e w ⟨rfl, rfl⟩
    rw [HE.out]
    go_wp2_with fail
    refine (room_no H.out s.size HE.out hr).mono ?_
    rintro e w1 ⟨rfl, hb, hf⟩
    have HF := hide (And.intro hb hf)
    clear hb hf
    go_wp2
    (try simp only [Exit.inBlock, Exit.then]); refine bodyPost_end (results_none rfl _ _ _) rfl ?_
    rw [HS.out]
    exact ⟨rfl, K, ⟨u, HF.out.1⟩, HF.out.2⟩
  case neg =>
    have HS : Hid (textSt st s = { st with l := st.l ++ strL s }) := by show _ = _; unfold textSt; rw [if_neg (by simp [he]), if_neg hr]
    have HR : Hid (¬ st.m - st.l.length < s.size) := hr
    clear he hr
    go_enter Try.func49, Try.ntmps49
    go_wp2_with fail
    refine (berr_any H.out).mono ?_
    rintro e w ⟨rfl, rfl⟩
    rw [HE.out]
    go_wp2_with fail
    refine (room_yes H.out s.size HE.out (by have := HR.out; omega)).mono ?_
    rintro e w1 ⟨rfl, hb, hf⟩
    obtain ⟨c0, c1, c2⟩ := S3.at hb.s
    have hfz := S3.free hb.s
    obtain ⟨a1, p1, rfl⟩ := hb.o.shape
    have HB := hide hb
    have HF := hide hf
    have HL : Hid (st.l.length + (strL s).length ≤ 140737488355328) := by show _ ≤ _; rw [length_strL]; exact hl HR.out
    clear hb hf c1 c2
    go_wp2_with (at_builtin; refine wpList_app rfl _ _ 9 rfl 0 _ (.string s) st.l (strL s) rfl HB.out.o rfl (src_str w1 s) HL.out (Nat.zero_le _) ?_)
    intro v' w2 ho hgr
    have hgl := HB.out.s.lt
    have e1 : w2.heap[g]? = w1.heap[g]? := hgr.by.block g hgl (fun e => HB.out.ng e.symm)
    have hs2 : S3 110 w2 g (.slice a1 st.l.length p1) (.int .i64 st.m) (.int .i64 st.e) := HB.out.s.same e1
    obtain ⟨d0, d1, d2⟩ := hs2.at
    have hfz2 := hs2.free
    have HFIN : Hid (∃ K', BuV true (w2.setCell ⟨g, 0, none⟩ v') K' g v' { st with l := st.l ++ strL s } ∧ Fr K K' w (w2.setCell ⟨g, 0, none⟩ v')) := by
      obtain ⟨K', h1, h2⟩ := HB.out.put hgr.by ho (by
        rcases hgr.at with e | e
        · exact .inr (fun k hk => by rw [e] at hk; cases hk; exact Nat.le_refl _)
        · exact .inl e)
      exact ⟨K', h1, HF.out.trans h2⟩
    obtain ⟨av, cv, rfl⟩ := ho.shape
    clear ho hgr hs2 e1 d1 d2
    go_wp2
    (try simp only [Exit.inBlock, Exit.then]); refine bodyPost_end (results_none rfl _ _ _) rfl ?_
    obtain ⟨K', h1, h2⟩ := HFIN.out
    rw [HS.out, ← List.length_append]
    exact ⟨rfl, K', ⟨_, h1⟩, h2⟩

theorem btake_any {w : World} {K : Nat → Nat} {g : Nat} {u : Value} {st : BSt} (h : BuV true w K g u st) (hl : st.l.length ≤ 140737488351232) (t : List Int) (ht : t = if st.e = 0 then st.l else []) :
    Calls Try.prog 72 #[.pointer (some ⟨g, 0, none⟩)] w fun e w' => ∃ a c, e = .returned (.slice a t.length c) ∧ OB w' w.heap.size (.slice a t.length c) t ∧ Below w.heap.size w w' := by
  have H := hide h
  by_cases he : st.e = 0
  case neg =>
    have he' : (st.e != 0) = true := by simpa using he
    rw [if_neg he] at ht
    subst ht
    clear h
    go_enter Try.func72, Try.ntmps72
    go_wp2_with fail
    refine (berr_any H.out).mono ?_
    rintro e w ⟨rfl, rfl⟩
    go_wp2
    go_ret
    exact ⟨none, 0, rfl, World.ownsRow_nil _ _ _ _, Below.refl _ _⟩
  case pos =>
    have HE := hide he
    rw [if_pos he] at ht
    subst ht
    obtain ⟨c0, c1, c2⟩ := S3.at h.s
    obtain ⟨a1, p1, rfl⟩ := h.o.shape
    clear h c1 c2 he
    go_enter Try.func72, Try.ntmps72
    go_wp2_with fail
    refine (berr_any H.out).mono ?_
    rintro e w ⟨rfl, rfl⟩
    rw [HE.out]
    go_wp2_with fail
    refine (slicesClone_any _ st.l _ H.out.o.sb hl).mono ?_
    rintro e w1 ⟨a, c, rfl, ho, hb⟩
    have HO := hide ho
    have HB := hide hb
    clear ho hb
    go_wp2
    go_ret
    exact ⟨a, c, rfl, HO.out, HB.out⟩

end Go.Proofs.Ytjmjjjpanioifaa

