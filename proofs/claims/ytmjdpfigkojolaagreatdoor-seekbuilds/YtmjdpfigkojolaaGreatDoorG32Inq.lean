import Derived.Test.YtmjdpfigkojolaaGreatDoorG31Vaj
import Derived.Test.YtmjdpfigkojolaaGreatDoorG11Ifp
import Derived.Test.YtmjdpfigkojolaaGreatDoorG00Oix
import Derived.Lib.SmallJoins
import Derived.Deep.Slices
import Derived.Test.YtmjdpfigkojolaaGreatDoorG01Mk2
import Derived.Lib.LaidTab
import Derived.Stop.LaidErr
import Derived.Test.YtmjdpfigkojolaaGreatDoorG27Rql
import Derived.Test.YtmjdpfigkojolaaGreatDoorG15Qr
import Derived.Sort.BigQuietIn
import Derived.OrdersHeld
import Derived.BigCall
namespace Go.Proofs.YtmjdpfigkojolaaGreatDoor
open Go.RowKit Go.Maps
set_option maxRecDepth 20000
set_option linter.unusedVariables false

def pcv (b : Pc) : Array Value := #[.int .i64 b.kind, .bool b.fin, .int .i64 b.at0, .int .i64 b.at1, .int .i64 b.to0, .int .i64 b.to1]

def Vdg (row : List Int) (L p : Nat) (out : List Int) (wh : List (Array Value)) (us : Int) (dn : Bool) (er : Int) : Prop :=
  (∃ pre : List Pc, er = 0 ∧ wh = pre.map pcv ∧ ((dn = false ∧ ∀ ps E q o, Txt row L p out ps E q o → Txt row L 0 [] (pre ++ ps) E q o) ∨ (dn = true ∧ us = p ∧ Txt row L 0 [] pre 0 p out))) ∨ (er ≠ 0 ∧ ∃ ps q o, Txt row L 0 [] ps er q o ∧ wh = ps.map pcv ∧ ∃ t, out = o ++ t)

theorem Vdg.step {row : List Int} {L p : Nat} {out : List Int} {wh : List (Array Value)} {us : Int} {f : Bool} {k : Int} {q : Nat} {o : List Int} (h : Vdg row L p out wh us false 0) (hb : Blk row L p out 0 f k q o) : Vdg row L q o (wh ++ [#[.int .i64 k, .bool f, .int .i64 p, .int .i64 q, .int .i64 out.length, .int .i64 o.length]]) q f 0 := by
  rcases h with ⟨pre, _, rfl, ⟨_, h⟩ | ⟨h, _⟩⟩ | ⟨h, _⟩
  · cases f with
    | false => exact .inl ⟨pre ++ [⟨k, false, p, q, out.length, o.length⟩], rfl, by simp [pcv], .inl ⟨rfl, fun ps E q' o' ht => by rw [List.append_assoc]; exact h _ _ _ _ (Txt.go hb ht)⟩⟩
    | true => exact .inl ⟨pre ++ [⟨k, true, p, q, out.length, o.length⟩], rfl, by simp [pcv], .inr ⟨rfl, rfl, h _ _ _ _ (Txt.last hb)⟩⟩
  · cases h
  · exact absurd rfl h

theorem Vdg.bad {row : List Int} {L p : Nat} {out : List Int} {wh : List (Array Value)} {us : Int} {f : Bool} {k : Int} {q : Nat} {o : List Int} {E : Int} (h : Vdg row L p out wh us false 0) (hb : Blk row L p out E f k q o) (he : E ≠ 0) (p' : Nat) (out' : List Int) (us' : Int) (dn' : Bool) (ht : ∃ t, out' = out ++ t) : Vdg row L p' out' wh us' dn' E := by
  rcases h with ⟨pre, _, rfl, ⟨_, h⟩ | ⟨h, _⟩⟩ | ⟨h, _⟩
  · have hx := h _ _ _ _ (Txt.bad hb he)
    rw [List.append_nil] at hx
    exact .inr ⟨he, _, _, _, hx, rfl, ht⟩
  · cases h
  · exact absurd rfl h

theorem Herd.swapv {W w : World} {a b : (Nat → Nat) × Thing} (h : Herd W w [a, b]) : Herd W w [b, a] := by
  have f : ∀ (i : Nat) (d : (Nat → Nat) × Thing), [b, a][i]? = some d → ([a, b] : List ((Nat → Nat) × Thing))[1 - i]? = some d ∧ i < 2 := fun i d hd => by
    match i with
    | 0 => exact ⟨hd, by omega⟩
    | 1 => exact ⟨hd, by omega⟩
    | n + 2 => simp at hd
  exact ⟨h.bel, fun i d hd => h.rep _ d (f i d hd).1, fun i d hd => h.up _ d (f i d hd).1, fun i j d e hd he hij => h.sep _ _ d e (f i d hd).1 (f j e he).1 (by have := (f i d hd).2; have := (f j e he).2; omega)⟩

def Pgr (w w' : World) (g : Nat) (row : List Int) (L : Nat) : Prop := ∃ r p out wh us dn er ys, SX w w' g r row p L out wh us dn er ys ∧ Vdg row L p out wh us dn er ∧ (dn = true ∨ er ≠ 0)

set_option maxHeartbeats 4000000 in
theorem vprogress {w : World} {v : Value} {l : List Int} {L : Nat} (h : SB w v l) (hB : Byt l) (hl : l.length ≤ 33554432) (hL : L ≤ 16777216) (O : Xodr w) :
    Calls Tryz.prog 30 #[v, .int .i64 L] w fun e w' => ∃ g, e = .returned (.pointer (some ⟨g, 0, none⟩)) ∧ Pgr w w' g (unpack l) L := by
  have HO := hide O
  have HR := hide (hqnew (Herd.nil w) v l h hB hl)
  obtain ⟨row, HROW⟩ : ∃ row, Hid (row = unpack l) := ⟨_, rfl⟩
  rw [← HROW.out] at HR
  rw [← HROW.out]
  clear h hB O
  go_enter Tryz.func30, Tryz.ntmps30
  go_wp2_with fail
  refine HR.out.mono ?_
  rintro e w2 ⟨r, K, rfl, h2⟩
  obtain ⟨K3, h3⟩ := h2.box1 (stO r L none 0 0 none 0 0 0 false 0)
  have h4 := Herd.swapv h3
  have h5 : Herd w (w2.alloc (stO r L none 0 0 none 0 0 0 false 0)) [(K3, tb w2.heap.size (stO r L none 0 0 none 0 0 0 false 0)), (K, tq r row 0), (fun _ => 0, tl (.slice none 0 0) [])] :=
    h4.push (Below.refl _ _) ⟨World.ownsRow_nil _ _ _ _, fun k hk => by simp [Value.ownBlock] at hk, fun k hk => absurd rfl hk⟩ fun k hk => absurd rfl hk
  have h6 : Herd w (w2.alloc (stO r L none 0 0 none 0 0 0 false 0)) [(K3, tb w2.heap.size (stO r L none 0 0 none 0 0 0 false 0)), (K, tq r row 0), (fun _ => 0, tl (.slice none 0 0) []), (fun _ => 0, tor (.slice none 0 0) [])] :=
    h5.push (Below.refl _ _) ⟨ORp.nil _ _ _ _, fun k hk => by simp [Value.ownBlock] at hk, fun k hk => absurd rfl hk⟩ fun k hk => absurd rfl hk
  have HX1 : Hid (SX w (w2.alloc (stO r L none 0 0 none 0 0 0 false 0)) w2.heap.size r row 0 L [] [] 0 false 0 []) := ⟨_, _, _, _, none, 0, none, 0, h6, Nat.zero_le _, hL, Nat.zero_le _⟩
  have HV1 : Hid (Vdg row L 0 [] [] 0 false 0) := .inl ⟨[], rfl, rfl, .inl ⟨rfl, fun ps E q o ht => ht⟩⟩
  obtain ⟨g, HG⟩ : ∃ g, Hid (w2.heap.size = g) := ⟨_, rfl⟩
  rw [HG.out] at HX1
  have HX2 : Hid (SX w (w2.alloc (.cells #[.pointer (some ⟨r, 0, none⟩), .int .i64 L, .slice none 0 0, .slice none 0 0, .int .i64 0, .bool false, .int .i64 0] 75)) g r row 0 L [] [] 0 false 0 []) := HX1
  clear h2 h3 h4 h5 h6 HR HX1
  go_wp2
  rw [HG.out]
  go_loopw [] (fun wr => ∃ (p : Nat) (out : List Int) (wh : List (Array Value)) (us : Int) (dn : Bool) (er : Int) (ys : List ((Nat → Nat) × Thing)), Hid (SX w wr g r row p L out wh us dn er ys) ∧ Hid (Vdg row L p out wh us dn er) ∧ Hid (er = 0 → dn = false → wh.length ≤ p)) (fun wr => if intOf ((wr.cell? ⟨g, 6, none⟩).getD undef) = 0 then row.length + 2 - (intOf ((wr.cell? ⟨r, 1, none⟩).getD undef)).toNat else 0)
  case atStart => exact ⟨0, [], [], 0, false, 0, [], HX2, HV1, fun _ _ => Nat.zero_le _⟩
  case round =>
    obtain ⟨p, out, wh, us, dn, er, ys, HX, HV, HW⟩ := hrel
    clear HX2 HV1
    obtain ⟨a1, x1, aw1, cw1, hst1, -, -, -⟩ := HX.out.cells
    obtain ⟨-, -, -, -, -, c5, c6, cf⟩ := stO_cells hst1
    have HMS : Hid ((intOf ((wr.cell? ⟨r, 1, none⟩).getD undef)).toNat = p ∧ intOf ((wr.cell? ⟨g, 6, none⟩).getD undef) = er) := by
      show _ ∧ _
      rw [HX.out.at.1, c6]
      simp [intOf]
    clear hst1
    cases dn with
    | true =>
      go_wp2
      (try simp only [Exit.inBlock, Exit.then])
      go_ret
      exact ⟨g, rfl, r, p, out, wh, us, true, er, ys, HX.out, HV.out, .inl rfl⟩
    | false =>
    by_cases e0 : er = 0
    case neg =>
      have e0' : (er == 0) = false := by simpa using e0
      have HE := hide e0
      clear e0
      go_wp2
      (try simp only [Exit.inBlock, Exit.then])
      go_ret
      exact ⟨g, rfl, r, p, out, wh, us, false, er, ys, HX.out, HV.out, .inr HE.out⟩
    subst e0
    have hwp := HW.out rfl rfl
    have HBK := hide (vblock HX.out HO.out hwp)
    go_wp2_with fail
    refine HBK.out.mono ?_
    rintro e w3 ⟨E, f, k, q, o, hB, rfl, ⟨rfl, zs, h3⟩ | ⟨he, q', o', u', zs, h3⟩⟩
    · obtain ⟨a5, x5, aw5, cw5, hst5, -, -, -⟩ := h3.cells
      obtain ⟨-, -, -, -, -, -, k6, kf⟩ := stO_cells hst5
      have HX3 := hide (h3.err 0)
      have HLT := hide (hB.lt HX.out.rd.1 rfl)
      have HV3 := hide (HV.out.step hB)
      clear h3 hst5 hB HBK c5 c6 cf
      go_wp2
      go_roundw
      case rel => exact ⟨q, o, _, q, f, 0, _, HX3, HV3, fun _ _ => by rw [List.length_append]; have := HLT.out; simp; omega⟩
      case measure =>
        obtain ⟨a6, x6, aw6, cw6, hst6, -, -, -⟩ := HX3.out.cells
        obtain ⟨-, -, -, -, -, -, m6, -⟩ := stO_cells hst6
        rw [HMS.out.1, HMS.out.2, HX3.out.at.1, m6]
        simp [intOf]
        have := HLT.out
        omega
    · obtain ⟨a5, x5, aw5, cw5, hst5, -, -, -⟩ := h3.sx.cells
      obtain ⟨-, -, -, -, -, -, k6, kf⟩ := stO_cells hst5
      have HX3 := hide (h3.sx.err E)
      have HV3 := hide (HV.out.bad hB he q' o' u' false h3.pre)
      have HE := hide he
      have HPL := hide HX.out.rd.2.1
      clear h3 hst5 hB HBK c5 c6 cf he
      go_wp2
      go_roundw
      case rel => exact ⟨q', o', wh, u', false, E, _, HX3, HV3, fun h => absurd h HE.out⟩
      case measure =>
        obtain ⟨a6, x6, aw6, cw6, hst6, -, -, -⟩ := HX3.out.cells
        obtain ⟨-, -, -, -, -, -, m6, -⟩ := stO_cells hst6
        rw [HMS.out.1, HMS.out.2, m6]
        have := HE.out
        simp [intOf, this]
        have := HPL.out
        omega
end Go.Proofs.YtmjdpfigkojolaaGreatDoor

namespace Go.Proofs.YtmjdpfigkojolaaGreatDoor
open Go.ChangeShapes Go.WideShapes Go.ChangeAt Go.RowKit Go.Joins Go.Deep

theorem own : ownKnob Tryz.prog.godebug = none := by kernel_rfl
theorem laidOut : laidOutB Tryz.prog = true := by kernel_rfl
theorem bytesByte : Tryz.prog.bytesOf 5 = 1 := by kernel_rfl

theorem byte_wf {n : Int} (h : (Lit.int .u8 n).wf = true) : 0 ≤ n ∧ n < 256 := by
  simp [Lit.wf, IntKind.min, IntKind.max, IntKind.signed, IntKind.bits] at h
  omega

theorem i64_in {n : Int} (h : (Lit.int .i64 n).wf = true) : -9223372036854775808 ≤ n ∧ n ≤ 9223372036854775807 := by
  simp [Lit.wf, IntKind.min, IntKind.max, IntKind.signed, IntKind.bits] at h
  omega

theorem open_bytes {H : Type} {enc : TypeId × Value → H} {W : World} {ao : Option Addr} {len cap : Nat} {d : DataW H} {ps : List MemPlace}
    (h : DataW.Trod enc Tryz.prog W 0 (fun _ => true) true 22 (.slice ao len cap) d ps) :
    ∃ l, SB W (.slice ao len cap) l ∧ Byt l ∧ (l = [] ∨ ∃ elems spare, d = .slice elems spare ∧ l.length ≤ elems.length + spare.length) := by
  obtain ⟨fuel, hf⟩ := h
  rcases open_ints Tryz.underlying22 Tryz.underlying5 (by kernel_rfl) hf with ⟨hcs, _⟩ | ⟨x, ll, c, zs, hcs, _, hl, hm, hz, hx, hcell, hwz⟩
  · simp [Value.cells] at hcs
    obtain ⟨rfl, rfl, rfl⟩ := hcs
    exact ⟨[], ⟨none, 0, rfl, Nat.le_refl _, Nat.zero_le _, fun _ => rfl, fun x hx => by cases hx⟩, (fun i => by simp), .inl rfl⟩
  · simp [Value.cells] at hcs
    obtain ⟨rfl, rfl, rfl⟩ := hcs
    simp only [if_true] at hz
    have e : (zs.take len).length = len := by rw [List.length_take]; omega
    simp only [Prod.mk.injEq] at hx
    have hbz : Byt zs := by
      intro i
      by_cases hi : i < zs.length
      · have : zs.getD i 0 = zs[i] := by simp [hi]
        rw [this]
        exact byte_wf (hwz _ (List.getElem_mem hi))
      · have : zs.getD i 0 = 0 := by simp [hi]
        rw [this]; decide
    refine ⟨zs.take len, ⟨some x, cap, by rw [e], by omega, hm, (fun h => by cases h), fun y hy i hi => ?_⟩, byt_take hbz _, .inr ⟨_, _, hx.1, ?_⟩⟩
    · cases hy
      rw [e] at hi
      rw [hcell i (by omega)]
      simp [List.getD, hi]
    · simp [lits]

theorem reach_bytes {H : Type} {ts : List TypeId} {ds : List (DataW H)} {j : Nat} {l : List Int} {d : DataW H} (h : (DataW.weightsEach Tryz.prog ts ds).all (· ≤ reachBytes) = true) (ht : ts[j]? = some 22) (hd : ds[j]? = some d)
    (hl : l = [] ∨ ∃ elems spare, d = .slice elems spare ∧ l.length ≤ elems.length + spare.length) : l.length ≤ 140737488351232 := by
  rcases hl with rfl | ⟨elems, spare, rfl, hl⟩
  · simp
  · have := sized_slice h ht hd Tryz.underlying22
    rw [bytesByte] at this
    simp only [reachBytes] at this
    omega

end Go.Proofs.YtmjdpfigkojolaaGreatDoor

namespace Go.Proofs.YtmjdpfigkojolaaGreatDoor
open Go.ChangeShapes Go.WideShapes Go.ChangeAt Go.RowKit Go.Joins Go.Deep

end Go.Proofs.YtmjdpfigkojolaaGreatDoor

namespace Go.Proofs.YtmjdpfigkojolaaGreatDoor
open Go.ChangeShapes Go.WideShapes Go.ChangeAt Go.RowKit Go.Joins Go.Deep
set_option maxRecDepth 20000

theorem cArr : Tryz.prog.cellsOf 172 = 19 := by kernel_rfl
theorem cInt : Tryz.prog.cellsOf 3 = 1 := by kernel_rfl
theorem gLeast : Tryz.prog.globalNamed "valise/header.least" = some 2 := by kernel_rfl
theorem tLeast : (Tryz.prog.globals[2]?).map (·.type) = some 172 := by kernel_rfl
theorem gFurther : Tryz.prog.globalNamed "valise/header.further" = some 1 := by kernel_rfl
theorem tFurther : (Tryz.prog.globals[1]?).map (·.type) = some 172 := by kernel_rfl
theorem gOrder : Tryz.prog.globalNamed "valise/header.order" = some 0 := by kernel_rfl
theorem tOrder : (Tryz.prog.globals[0]?).map (·.type) = some 172 := by kernel_rfl

def zlst : List Int := [1, 1, 1, 1, 1, 1, 1, 1, 1, 1, 1, 1, 1, 1, 1, 1, 3, 3, 11]
def zf : List Int := [0, 0, 0, 0, 0, 0, 0, 0, 0, 0, 0, 0, 0, 0, 0, 0, 2, 3, 7]
def zo : List Int := [16, 17, 18, 0, 8, 7, 9, 6, 10, 5, 11, 4, 12, 3, 13, 2, 14, 1, 15]

theorem zl_at : ∀ i : Nat, i < 19 → zlst.getD i 0 = lst i := by decide
theorem zf_at : ∀ i : Nat, i < 19 → zf.getD i 0 = ((frt i : Nat) : Int) := by decide

theorem tab_of {W : World} {rest : List (String × DataW Unit)} (h : laidMet Tryz.prog (("valise/header.least", Lib.tabData .i64 zlst) :: ("valise/header.further", Lib.tabData .i64 zf) :: rest) W) : Tab W := by
  have h1 := Lib.tabIs_of_head gLeast tLeast Tryz.underlying172 Tryz.underlying3 cInt cArr h
  have h2 := Lib.tabIs_of_head gFurther tFurther Tryz.underlying172 Tryz.underlying3 cInt cArr h.tail
  exact ⟨fun i hi => by rw [h1.cell gLeast i (by show i < 19; exact hi), zl_at i hi], fun i hi => by rw [h2.cell gFurther i (by show i < 19; exact hi), zf_at i hi]⟩

theorem ord_of {W : World} {rest : List (String × DataW Unit)} (h : laidMet Tryz.prog (("valise/header.order", Lib.tabData .i64 zo) :: rest) W) : ∀ i : Nat, i < 19 → W.cell? ⟨0, i, none⟩ = some (.int .i64 (zo.getD i 0)) := fun i hi =>
  (Lib.tabIs_of_head gOrder tOrder Tryz.underlying172 Tryz.underlying3 cInt cArr h).cell gOrder i (by show i < 19; exact hi)
end Go.Proofs.YtmjdpfigkojolaaGreatDoor

namespace Go.Proofs.YtmjdpfigkojolaaGreatDoor
open Go.ChangeShapes Go.WideShapes Go.ChangeAt Go.RowKit Go.Joins Go.Deep
set_option maxRecDepth 20000

theorem gXorder : Tryz.prog.globalNamed "valise/valiseref7.order" = some 3 := by kernel_rfl
theorem tXorder : (Tryz.prog.globals[3]?).map (·.type) = some 172 := by kernel_rfl

theorem xord_of {W : World} {rest : List (String × DataW Unit)} (h : laidMet Tryz.prog (("valise/valiseref7.order", Lib.tabData .i64 zo) :: rest) W) : Xodr W := ⟨fun i hi =>
  (Lib.tabIs_of_head gXorder tXorder Tryz.underlying172 Tryz.underlying3 cInt cArr h).cell gXorder i (by show i < 19; exact hi)⟩
end Go.Proofs.YtmjdpfigkojolaaGreatDoor

namespace Go.Proofs.YtmjdpfigkojolaaGreatDoor
open Go.RowKit
set_option linter.unusedVariables false

def noPan (Q : Exit → Act → World → Prop) : Exit → Act → World → Prop
  | .panic _, _, _ => False
  | e, a, w => Q e a w

theorem wpIn_noPan {F : Fence} {n : Nat} {P : Program} {c : Code} {Q : Exit → Act → World → Prop} {a : Act} {w : World} (h : c.wpIn F n P (noPan Q) a w) : c.wpIn F n P Q a w := by
  refine wpIn_mono h ?_
  intro e a w hq
  cases e with
  | panic _ => exact hq.elim
  | normal => exact hq
  | ret => exact hq
  | exit _ => exact hq
  | goto _ => exact hq
  | outgrown => exact hq

end Go.Proofs.YtmjdpfigkojolaaGreatDoor

