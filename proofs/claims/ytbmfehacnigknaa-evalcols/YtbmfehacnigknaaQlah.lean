import Derived.Test.YtbmfehacnigknaaQlag
import Derived.Test.YtbmfehacnigknaaQlab
import Derived.Deep.RegionHeld3
import Derived.Test.YtbmfehacnigknaaQlaa
import Derived.ProofKit
import Derived.OpenShut
import Derived.ShutString
import Derived.ChangeOld
import Derived.Below
import Derived.Deep.Strs
import Derived.ChangeMaps5
import Derived.Test.YtbmfehacnigknaaQlac
import Derived.Deep.Trees
namespace Go.Proofs.Ytbmfehacnigknaa
open Go.RowKit
set_option linter.unusedVariables false
set_option linter.unusedSimpArgs false

set_option maxRecDepth 100000 in
set_option maxHeartbeats 4000000 in
theorem holds1_any {f : Pg × Tg → Vt × Int} {P : Pg × Tg → Prop} {bs : Nat} {sa sb : Value} {w' : World} (hv : EvF f P w' 26 (.agg #[sa, sb])) (last : Bool) (hs0 : w'.cell? ⟨bs, 0, none⟩ = some sa) (hs1 : w'.cell? ⟨bs, 1, none⟩ = some sb) (hsl : ∃ a n c a2 n2 c2, sa = .slice a n c ∧ sb = .slice a2 n2 c2) {Q : Nat → Prop} {x : Pg × Tg} (hP : P x) {cs : List Value} (hx : eG.E Q w' x cs) :
    Calls Try.prog 33 #[.bool last, .agg cs.toArray, .pointer (some ⟨bs, 0, none⟩)] w' fun en w'' => en = .returned (.tuple #[.bool (decide ((f x).1.2.1 = 1)), .int .i64 (f x).2]) ∧ Below w'.heap.size w' w'' := by
  obtain ⟨hcf, hN⟩ := hv
  obtain ⟨a, n, c, a2, n2, c2, rfl, rfl⟩ := hsl
  have hEx' := hx
  obtain ⟨ea, en, ec, rfl, -⟩ := hEx'
  simp only [exC] at *
  have HX := hN x Q [.int .i64 x.1.1, .int .i64 x.1.2.1, .int .i64 x.1.2.2.1, .string x.1.2.2.2.1, .string x.1.2.2.2.2.1, .string x.1.2.2.2.2.2, .slice ea en ec] (w'.alloc (.cells #[.int .i64 x.1.1, .int .i64 x.1.2.1, .int .i64 x.1.2.2.1, .string x.1.2.2.2.1, .string x.1.2.2.2.2.1, .string x.1.2.2.2.2.2, .slice ea en ec] 41)) hP (bal (Below.refl _ _) _) (eG.keep (fun b _ hl => (bal (Below.refl _ _) _).block b hl) hx)
  have bx := Bk.new w' (.cells #[.int .i64 x.1.1, .int .i64 x.1.2.1, .int .i64 x.1.2.2.1, .string x.1.2.2.2.1, .string x.1.2.2.2.2.1, .string x.1.2.2.2.2.2, .slice ea en ec] 41)
  have hb1 := bal (Below.refl w'.heap.size w') (.cells #[.int .i64 x.1.1, .int .i64 x.1.2.1, .int .i64 x.1.2.2.1, .string x.1.2.2.2.1, .string x.1.2.2.2.2.1, .string x.1.2.2.2.2.2, .slice ea en ec] 41)
  replace hs0 := cell_later hb1 hs0
  replace hs1 := cell_later hb1 hs1
  clear hN hx hP
  generalize f x = R at *
  replace HX : Hid _ := hid HX
  go_enter Try.func33, Try.ntmps33
  go_upto_region 1 with fail
  generalize w'.alloc (.cells #[.int .i64 x.1.1, .int .i64 x.1.2.1, .int .i64 x.1.2.2.1, .string x.1.2.2.2.1, .string x.1.2.2.2.2.1, .string x.1.2.2.2.2.2, .slice ea en ec] 41) = W at *
  have d0 := bx.cell 0
  have d1 := bx.cell 1
  have d2 := bx.cell 2
  have d3 := bx.cell 3
  have d4 := bx.cell 4
  have d5 := bx.cell 5
  have d6 := bx.cell 6
  simp only [List.getElem?_toArray, List.getElem?_cons_zero, List.getElem?_cons_succ] at d0 d1 d2 d3 d4 d5 d6
  clear bx
  go_wp2_with fail
  refine Calls.mono HX.out ?_
  rintro e w4 ⟨rfl, hb4⟩
  have hB4 := Below.on hb1 hb4
  have hB5 := bal hB4 (.cells #[.int .i64 R.1.1, .int .i64 R.1.2.1, .string R.1.2.2] 38)
  have by0 := Bk.new w4 (.cells #[.int .i64 R.1.1, .int .i64 R.1.2.1, .string R.1.2.2] 38)
  clear HX hcf d0 d1 d2 d3 d4 d5 d6 hb1 hb4 hB4 hs0 hs1
  go_upto_region 2 with fail
  generalize w4.alloc (.cells #[.int .i64 R.1.1, .int .i64 R.1.2.1, .string R.1.2.2] 38) = W5 at *
  have y1 := by0.cell 1
  simp only [List.getElem?_toArray, List.getElem?_cons_zero, List.getElem?_cons_succ] at y1
  obtain ⟨D, hD⟩ : ∃ D, decide (R.1.2.1 = 1) = D := ⟨_, rfl⟩
  have hD2 : (R.1.2.1 == 1) = D := by rw [← hD]; rfl
  have HD : Hid _ := hid hD
  clear by0
  go_wp2
  exact bodyPost_ret (v := .tuple #[.bool D, .int .i64 R.2]) (by simp [results, Try.results33]) rfl ⟨by rw [HD.out], hB5⟩

/-- What Holds tells. -/
def hoE (C : List It) (V : List Vt) (x : Pg × Tg) : Bool × Int := (decide ((evT C V x).2 = 0) && decide ((evT C V x).1.2.1 = 1), (evT C V x).2)
set_option maxRecDepth 100000 in
set_option maxHeartbeats 4000000 in
theorem holdsV_any {C : List It} {V : List Vt} (hlen : C.length ≤ 500) (hCV : C.length = V.length) (hVf : ∀ v ∈ V, Fits v.2.1) (x : Pg × Tg) (hft : ftT x) {Q : Nat → Prop} {w : World} {a : Option Addr} {n c : Nat} {a2 : Option Addr} {n2 c2 : Nat} (hC : RowIs eItem (fun _ => True) w (.slice a n c) C) (hV : RowIs eVal (fun _ => True) w (.slice a2 n2 c2) V) {ao : Option Addr} {m d : Nat} (h : RowIs eG Q w (.slice ao m d) [x]) :
    Calls Try.prog 16 #[.slice a n c, .slice a2 n2 c2, .slice ao m d] w fun en w' => en = .returned (.tuple #[.bool (hoE C V x).1, .int .i64 (hoE C V x).2]) ∧ Below w.heap.size w w' := by
  obtain ⟨l1, l2, l3⟩ := row_lens hC
  obtain ⟨m1, m2, m3⟩ := row_lens hV
  obtain ⟨k1, k2, k3⟩ := row_lens h
  obtain rfl : n2 = n := by omega
  obtain rfl : m = 1 := by simpa using k1.symm
  have HPr : Hid _ := hid (pairedV_any (a := a) (n := n2) (c := c) (a2 := a2) (c2 := c2) l2 m2 l3 m3)
  have HF : Hid (∀ W bs, Below w.heap.size w W → W.cell? ⟨bs, 0, none⟩ = some (.slice a n2 c) → W.cell? ⟨bs, 1, none⟩ = some (.slice a2 n2 c2) → Calls Try.prog 32 #[.slice ao 1 d, .bool true, .func (.func 33) #[] #[.pointer (some ⟨bs, 0, none⟩)]] W fun en w' => en = .returned (.tuple #[.bool (hoE C V x).1, .int .i64 (hoE C V x).2]) ∧ Below W.heap.size W w') := hid fun W bs hw s0 s1 => by
    have hv : EvF (evT C V) (fun y => y = x) W 26 (.agg #[.slice a n2 c, .slice a2 n2 c2]) := ⟨fun args w2 => by rfl, fun y Q2 cs2 w2 hy hb2 hx2 => by subst hy; exact ev_any hlen hCV hVf y hft Q2 w2 cs2 a n2 c a2 n2 c2 (hC.keep (by decide) fun b _ hl => (Below.on hw hb2).block b hl) (hV.keep (by decide) fun b _ hl => (Below.on hw hb2).block b hl) hx2⟩
    have hr : RowIs eG (fun b => b < W.heap.size) W (.slice ao 1 d) [x] := (h.keep (by decide) fun b _ hl => hw.block b hl).mono (by decide) fun b _ hl => hl
    have := foldVExbo (l := [x]) (B := W.heap.size) (by simp) (Nat.le_refl _) (fun b hq => hq) hr (caps := #[.pointer (some ⟨bs, 0, none⟩)]) (N := 33) (fun args w' => by rfl) (fun _ => (evT C V x).2) (fun i w' k => Below W.heap.size W w' ∧ (i = 1 → k = decide ((evT C V x).1.2.1 = 1)))
      (fun i w' k hI => hI.1) (fun i w' k o hI => ⟨bal hI.1 o, hI.2⟩) (a0 := true) ⟨Below.refl _ _, fun h => absurd h (by decide)⟩
      (fun i hi w' k cs hI hE => by
        have hi' : i < 1 := hi
        obtain rfl : i = 0 := by omega
        refine Calls.mono (holds1_any (hv.later hI.1) k (cell_later hI.1 s0) (cell_later hI.1 s1) ⟨_, _, _, _, _, _, rfl, rfl⟩ rfl hE) ?_
        rintro en w3 ⟨rfl, hb3⟩
        exact ⟨_, rfl, Below.on hI.1 hb3, fun _ => ⟨Below.on hI.1 hb3, fun _ => rfl⟩⟩)
    refine Calls.mono this ?_
    rintro en w3 ⟨k, rfl, hb3, g1, g2⟩
    have eE : erO (fun _ => (evT C V x).2) [x].length = (evT C V x).2 := by
      show erL [(evT C V x).2] = (evT C V x).2
      unfold erL erL
      split
      · exact Eq.symm (by assumption)
      · rfl
    rw [eE] at g1 g2 ⊢
    refine ⟨?_, hb3⟩
    unfold hoE
    by_cases h0 : (evT C V x).2 = 0
    · rw [(g1 h0).2 rfl, h0]; simp
    · rw [g2 h0]; simp [h0]
  generalize hoE C V x = R at *
  clear hC hV h hft hVf hCV hlen
  go_enter Try.func16, Try.ntmps16
  go_wp2_with fail
  refine Calls.mono (HPr.out _) ?_
  rintro e w4 ⟨rfl, hb4⟩
  have hB5 := bal hb4 (.cells #[.slice a n2 c, .slice a2 n2 c2] 74)
  have by0 := Bk.new w4 (.cells #[.slice a n2 c, .slice a2 n2 c2] 74)
  clear HPr hb4
  go_upto_region 4 with fail
  generalize w4.alloc (.cells #[.slice a n2 c, .slice a2 n2 c2] 74) = W5 at *
  have y0 := by0.cell 0
  have y1 := by0.cell 1
  simp only [List.getElem?_toArray, List.getElem?_cons_zero, List.getElem?_cons_succ] at y0 y1
  have HF2 : Hid _ := hid (HF.out W5 _ hB5 y0 y1)
  clear by0 HF
  go_wp2_with fail
  refine Calls.mono HF2.out ?_
  rintro e w6 ⟨rfl, hb6⟩
  have hB6 := Below.on hB5 hb6
  clear HF2 hb6 hB5
  go_wp2
  exact bodyPost_ret (v := .tuple #[.bool R.1, .int .i64 R.2]) (by simp [results, Try.results16]) rfl ⟨rfl, hB6⟩
set_option maxRecDepth 100000 in
set_option maxHeartbeats 4000000 in
theorem holdsNil_any (w : World) : Calls Try.prog 16 #[.slice none 0 0, .slice none 0 0, .slice none 0 0] w fun en w' => en = .returned (.tuple #[.bool true, .int .i64 0]) ∧ Below w.heap.size w w' := by
  have HPr : Hid _ := hid (pairedV_any (a := none) (n := 0) (c := 0) (a2 := none) (c2 := 0) (Nat.le_refl _) (Nat.le_refl _) (by decide) (by decide))
  have HF : Hid (∀ W v caps, v = #[] → Calls Try.prog 32 #[.slice none 0 0, .bool true, .func (.func 33) v caps] W fun en w' => en = .returned (.tuple #[.bool true, .int .i64 0]) ∧ Below W.heap.size W w') := hid fun W v caps hv0 => by
    subst hv0
    have := foldVExbo (l := []) (B := W.heap.size) (by simp) (Nat.le_refl _) (Q := fun _ => False) (fun b hq => hq.elim) (RowIs.nil eG _ W) (caps := caps) (N := 33) (fun args w' => by rfl) (fun _ => 0) (fun i w' k => Below W.heap.size W w' ∧ k = true)
      (fun i w' k hI => hI.1) (fun i w' k o hI => ⟨bal hI.1 o, hI.2⟩) (a0 := true) ⟨Below.refl _ _, rfl⟩
      (fun i hi w' k cs hI hE => by simp at hi)
    refine Calls.mono this ?_
    rintro en w3 ⟨k, rfl, hb3, g1, g2⟩
    rw [(g1 rfl).2]
    exact ⟨rfl, hb3⟩
  go_enter Try.func16, Try.ntmps16
  go_wp2_with fail
  refine Calls.mono (HPr.out _) ?_
  rintro e w4 ⟨rfl, hb4⟩
  clear HPr
  go_wp2_with fail
  refine Calls.mono (HF.out _ _ _ rfl) ?_
  rintro e w6 ⟨rfl, hb6⟩
  have hB6 := Below.on (bal hb4 _) hb6
  clear HF hb6
  go_wp2
  exact bodyPost_ret (v := .tuple #[.bool true, .int .i64 0]) (by simp [results, Try.results16]) rfl ⟨rfl, hB6⟩

end Go.Proofs.Ytbmfehacnigknaa
namespace Go.Proofs.Ytbmfehacnigknaa
open Go.RowKit
set_option linter.unusedVariables false
set_option linter.unusedSimpArgs false

/-- A value whose number fits and whose text is not too long. -/
def Gd (v : Vt) : Prop := Fits v.2.1 ∧ v.2.2.size ≤ 500
theorem gd_z : Gd vZ := ⟨fits0, by decide⟩
theorem gd_tr (b : Bool) : Gd (trV b) := ⟨trV_fits b, by cases b <;> decide⟩
theorem gd_num (z : Int) : Gd (1, nV z, ⟨#[]⟩) := ⟨nV_fits z, Nat.zero_le 500⟩
end Go.Proofs.Ytbmfehacnigknaa
namespace Go.Proofs.Ytbmfehacnigknaa
open Go.RowKit
set_option linter.unusedVariables false
set_option linter.unusedSimpArgs false

end Go.Proofs.Ytbmfehacnigknaa
namespace Go.Proofs.Ytbmfehacnigknaa
open Go.RowKit
set_option linter.unusedVariables false
set_option linter.unusedSimpArgs false

end Go.Proofs.Ytbmfehacnigknaa
namespace Go.Proofs.Ytbmfehacnigknaa
open Go.RowKit
set_option linter.unusedVariables false
set_option linter.unusedSimpArgs false

end Go.Proofs.Ytbmfehacnigknaa
namespace Go.Proofs.Ytbmfehacnigknaa
open Go.RowKit
set_option linter.unusedVariables false
set_option linter.unusedSimpArgs false

end Go.Proofs.Ytbmfehacnigknaa
namespace Go.Proofs.Ytbmfehacnigknaa
open Go.RowKit
set_option linter.unusedVariables false
set_option linter.unusedSimpArgs false

end Go.Proofs.Ytbmfehacnigknaa
namespace Go.Proofs.Ytbmfehacnigknaa
open Go.RowKit
set_option linter.unusedVariables false
set_option linter.unusedSimpArgs false

end Go.Proofs.Ytbmfehacnigknaa
namespace Go.Proofs.Ytbmfehacnigknaa
open Go.RowKit
set_option linter.unusedVariables false
set_option linter.unusedSimpArgs false

end Go.Proofs.Ytbmfehacnigknaa
namespace Go.Proofs.Ytbmfehacnigknaa
open Go.RowKit
set_option linter.unusedVariables false
set_option linter.unusedSimpArgs false

end Go.Proofs.Ytbmfehacnigknaa
namespace Go.Proofs.Ytbmfehacnigknaa
open Go.RowKit
set_option linter.unusedVariables false
set_option linter.unusedSimpArgs false

end Go.Proofs.Ytbmfehacnigknaa
namespace Go.Proofs.Ytbmfehacnigknaa
open Go.RowKit
set_option linter.unusedVariables false
set_option linter.unusedSimpArgs false

end Go.Proofs.Ytbmfehacnigknaa
namespace Go.Proofs.Ytbmfehacnigknaa
open Go.RowKit
set_option linter.unusedVariables false
set_option linter.unusedSimpArgs false

end Go.Proofs.Ytbmfehacnigknaa
namespace Go.Proofs.Ytbmfehacnigknaa
open Go.RowKit
set_option linter.unusedVariables false
set_option linter.unusedSimpArgs false

end Go.Proofs.Ytbmfehacnigknaa
namespace Go.Proofs.Ytbmfehacnigknaa
open Go.RowKit
set_option linter.unusedVariables false
set_option linter.unusedSimpArgs false

end Go.Proofs.Ytbmfehacnigknaa
namespace Go.Proofs.Ytbmfehacnigknaa
open Go.RowKit
set_option linter.unusedVariables false
set_option linter.unusedSimpArgs false

end Go.Proofs.Ytbmfehacnigknaa
namespace Go.Proofs.Ytbmfehacnigknaa
open Go.RowKit
set_option linter.unusedVariables false
set_option linter.unusedSimpArgs false

end Go.Proofs.Ytbmfehacnigknaa
namespace Go.Proofs.Ytbmfehacnigknaa
open Go.RowKit
set_option linter.unusedVariables false

abbrev zE2 : Obj := .cells #[.int .i64 0, .int .i64 0, .int .i64 0, .string ⟨#[]⟩, .string ⟨#[]⟩, .string ⟨#[]⟩, .slice none 0 0] 41

end Go.Proofs.Ytbmfehacnigknaa
namespace Go.Proofs.Ytbmfehacnigknaa
open Go.RowKit
set_option linter.unusedVariables false

end Go.Proofs.Ytbmfehacnigknaa
namespace Go.Proofs.Ytbmfehacnigknaa
open Go.RowKit
set_option linter.unusedVariables false

/-- A table: its name, its columns. -/
abbrev Tab := ByteArray × List Co
end Go.Proofs.Ytbmfehacnigknaa
namespace Go.Proofs.Ytbmfehacnigknaa
open Go.RowKit
set_option linter.unusedVariables false

end Go.Proofs.Ytbmfehacnigknaa
namespace Go.Proofs.Ytbmfehacnigknaa
open Go.RowKit
set_option linter.unusedVariables false

end Go.Proofs.Ytbmfehacnigknaa
namespace Go.Proofs.Ytbmfehacnigknaa
open Go.RowKit
set_option linter.unusedVariables false
set_option linter.unusedSimpArgs false

end Go.Proofs.Ytbmfehacnigknaa
namespace Go.Proofs.Ytbmfehacnigknaa
open Go.RowKit
set_option linter.unusedVariables false
set_option linter.unusedSimpArgs false

end Go.Proofs.Ytbmfehacnigknaa
namespace Go.Proofs.Ytbmfehacnigknaa
open Go.RowKit
set_option linter.unusedVariables false
set_option linter.unusedSimpArgs false

end Go.Proofs.Ytbmfehacnigknaa
namespace Go.Proofs.Ytbmfehacnigknaa
open Go.RowKit
set_option linter.unusedVariables false
set_option linter.unusedSimpArgs false

end Go.Proofs.Ytbmfehacnigknaa
namespace Go.Proofs.Ytbmfehacnigknaa
open Go.RowKit
set_option linter.unusedVariables false
set_option linter.unusedSimpArgs false

end Go.Proofs.Ytbmfehacnigknaa
namespace Go.Proofs.Ytbmfehacnigknaa
open Go.RowKit
set_option linter.unusedVariables false
set_option linter.unusedSimpArgs false

abbrev clC (c : Cl3) : List Value := [.string c.1, .string c.2.1, .int .i64 c.2.2]
end Go.Proofs.Ytbmfehacnigknaa
namespace Go.Proofs.Ytbmfehacnigknaa
open Go.RowKit
set_option linter.unusedVariables false
set_option linter.unusedSimpArgs false

/-- A statement as typed looks at it. -/
structure Sq where
  kind : Int
  table : ByteArray
  name : ByteArray
  values : List (Pg × Tg)
  items : List It
  join : ByteArray
  on : List (Pg × Tg)
  wh : List (Pg × Tg)
  order : List (Pg × Tg)
end Go.Proofs.Ytbmfehacnigknaa
namespace Go.Proofs.Ytbmfehacnigknaa
open Go.RowKit
set_option linter.unusedVariables false
set_option linter.unusedSimpArgs false

end Go.Proofs.Ytbmfehacnigknaa
namespace Go.Proofs.Ytbmfehacnigknaa
open Go.RowKit
set_option linter.unusedVariables false
set_option linter.unusedSimpArgs false

end Go.Proofs.Ytbmfehacnigknaa
namespace Go.Proofs.Ytbmfehacnigknaa
open Go.RowKit
set_option linter.unusedVariables false
set_option linter.unusedSimpArgs false

end Go.Proofs.Ytbmfehacnigknaa
namespace Go.Proofs.Ytbmfehacnigknaa
open Go.RowKit
set_option linter.unusedVariables false
set_option linter.unusedSimpArgs false

end Go.Proofs.Ytbmfehacnigknaa
namespace Go.Proofs.Ytbmfehacnigknaa
open Go.RowKit
set_option linter.unusedVariables false
set_option linter.unusedSimpArgs false

end Go.Proofs.Ytbmfehacnigknaa
namespace Go.Proofs.Ytbmfehacnigknaa
open Go.RowKit
set_option linter.unusedVariables false
set_option linter.unusedSimpArgs false

abbrev tbT : Tbl := ⟨⟨#[116]⟩, [(⟨#[107]⟩, 1, ⟨#[]⟩), (⟨#[118]⟩, 2, ⟨#[]⟩), (⟨#[110]⟩, 1, ⟨#[]⟩)], [⟨#[110]⟩]⟩
abbrev tbU : Tbl := ⟨⟨#[117]⟩, [(⟨#[107]⟩, 2, ⟨#[]⟩), (⟨#[114]⟩, 1, ⟨#[116]⟩), (⟨#[110]⟩, 1, ⟨#[]⟩)], []⟩
abbrev tbs : List Tbl := [tbT, tbU]
end Go.Proofs.Ytbmfehacnigknaa
namespace Go.Proofs.Ytbmfehacnigknaa
open Go.RowKit
set_option linter.unusedVariables false
set_option linter.unusedSimpArgs false

end Go.Proofs.Ytbmfehacnigknaa
namespace Go.Proofs.Ytbmfehacnigknaa
open Go.RowKit
set_option linter.unusedVariables false
set_option linter.unusedSimpArgs false

/-- Every part has as many parts as it must have; numbers fit, texts are not too long. -/
def wfF : Tg → Prop
  | .nil => True
  | .node _ _ p l r => (((toL l).length : Int) = partsP p.1 ∧ Gd (p.2.1, p.2.2.1, p.2.2.2.1) ∧ wfF l) ∧ wfF r
def wfT (x : Pg × Tg) : Prop := ((toL x.2).length : Int) = partsP x.1.1 ∧ Gd (x.1.2.1, x.1.2.2.1, x.1.2.2.2.1) ∧ wfF x.2
theorem wf_ftF : ∀ {f : Tg}, wfF f → ftF f := by
  intro f
  induction f with
  | nil => intro _; trivial
  | node a b p l r ihl ihr => exact fun h => ⟨h.1.2.1.1, ihl h.1.2.2, ihr h.2⟩
theorem wf_ft {x : Pg × Tg} (h : wfT x) : ftT x := ⟨h.2.1.1, wf_ftF h.2.2⟩
end Go.Proofs.Ytbmfehacnigknaa
namespace Go.Proofs.Ytbmfehacnigknaa
open Go.RowKit
set_option linter.unusedVariables false
set_option linter.unusedSimpArgs false

def nz (r : Vt × Int) : Vt × Int := if r.2 ≠ 0 then (vZ, r.2) else r
theorem nz_ok {r : Vt × Int} (h : r.2 = 0) : nz r = r := by unfold nz; rw [if_neg (by simpa using h)]
def evW (op : Int) (r0 r1 : Vt × Int) : Vt × Int := if erL [r0.2, r1.2] ≠ 0 then (vZ, erL [r0.2, r1.2]) else madeP op [r0.1, r1.1]
end Go.Proofs.Ytbmfehacnigknaa
namespace Go.Proofs.Ytbmfehacnigknaa
open Go.RowKit
set_option linter.unusedVariables false
set_option linter.unusedSimpArgs false

theorem ev1_gd {C : List It} {V : List Vt} (hV : ∀ v ∈ V, Gd v) {p : Pg} (hp : Gd (p.2.1, p.2.2.1, p.2.2.2.1)) {rs : List (Vt × Int)} : Gd (ev1 C V p rs).1 := by
  unfold ev1
  split
  · exact gd_z
  split
  · exact hp
  split
  · unfold colV
    split
    · cases h : V[(fidx (itV p.2.2.2.2.1 p.2.2.2.2.2) C).toNat]? with
      | none => exact gd_z
      | some v => exact hV v (List.mem_of_getElem? h)
    · exact gd_z
  split
  · unfold upP
    split
    · exact gd_tr _
    split
    · exact gd_tr _
    split
    · exact gd_tr _
    · exact gd_tr _
  split
  · unfold upP
    split
    · exact gd_tr _
    split
    · exact gd_tr _
    split
    · exact gd_tr _
    · exact gd_tr _
  split
  · exact gd_z
  unfold madeP
  split
  · unfold recP
    split
    · exact gd_z
    · exact gd_num _
  split
  · exact gd_tr _
  unfold cmpdP
  split
  · exact gd_z
  · exact gd_tr _
theorem evT_gd {C : List It} {V : List Vt} (hV : ∀ v ∈ V, Gd v) {x : Pg × Tg} (hx : Gd (x.1.2.1, x.1.2.2.1, x.1.2.2.2.1)) : Gd (evT C V x).1 := ev1_gd hV hx
theorem evT_two {C : List It} {V : List Vt} {x u v : Pg × Tg} (hop : 5 ≤ x.1.1 ∧ x.1.1 ≤ 13) (hl : toL x.2 = [u, v]) : evT C V x = evW x.1.1 (evT C V u) (evT C V v) := by
  have hp : partsP x.1.1 = 2 := by unfold partsP; rw [if_neg (by omega), if_neg (by omega), if_neg (by omega), if_neg (by omega), if_pos (by omega)]
  unfold evT ev1
  rw [evs_map, hl, if_neg (by rw [hp]; intro h; exact h rfl), if_neg (by omega), if_neg (by omega), if_neg (by omega), if_neg (by omega)]
  rfl
theorem evE_nz (C : List It) (V : List Vt) (x : Pg × Tg) : evE C V x = nz (evT C V x) := rfl
end Go.Proofs.Ytbmfehacnigknaa
namespace Go.Proofs.Ytbmfehacnigknaa
open Go.RowKit
set_option linter.unusedVariables false
set_option linter.unusedSimpArgs false

theorem SlF.nil (Q : Nat → Prop) (w : World) : SlF Q w none 0 0 .nil := ⟨rfl, Nat.le_refl _, by omega, fun h => absurd h (Nat.lt_irrefl _)⟩
theorem Ce.list {w : World} {b o : Nat} {op : Int} {p : Pay} {sl : Value} (h : Ce w b o op p sl) : ∀ j (hj : j < (exC op p sl).length), w.cell? ⟨b, o + j, none⟩ = some (exC op p sl)[j] := by
  obtain ⟨c0, c1, c2, c3, c4, c5, c6⟩ := h
  intro j hj
  have hj' : j < 7 := hj
  match j, hj' with
  | 0, _ => exact c0
  | 1, _ => exact c1
  | 2, _ => exact c2
  | 3, _ => exact c3
  | 4, _ => exact c4
  | 5, _ => exact c5
  | 6, _ => exact c6
theorem row1_g {w : World} {b : Nat} {x : Pg × Tg} {ea : Option Addr} {en ec : Nat} (h : Ce w b 0 x.1.1 x.1.2 (.slice ea en ec)) (hs : SlF (fun _ => True) w ea en ec x.2) : RowIs eG (fun _ => True) w (.slice (some ⟨b, 0, none⟩) 1 1) [x] :=
  ⟨_, 1, 1, rfl, rfl, Nat.le_refl _, by omega, fun _ => ⟨b, 0, rfl, trivial, fun i hi => by
    have hi' : i < 1 := hi
    match i, hi' with
    | 0, _ => exact ⟨exC x.1.1 x.1.2 (.slice ea en ec), ⟨ea, en, ec, rfl, hs⟩, rfl, fun j hj => h.list j hj⟩⟩⟩
theorem slF2 {w : World} {b : Nat} {p q : Pg} {l r : Tg} {ea : Option Addr} {en ec : Nat} {fa : Option Addr} {fn fc : Nat} (h : Ce w b 0 p.1 p.2 (.slice ea en ec)) (hs : SlF (fun _ => True) w ea en ec l) (h' : Ce w b 7 q.1 q.2 (.slice fa fn fc)) (hs' : SlF (fun _ => True) w fa fn fc r) : SlF (fun _ => True) w (some ⟨b, 0, none⟩) 2 2 (.node 0 0 p l (.node 0 0 q r .nil)) :=
  ⟨rfl, Nat.le_refl _, by omega, fun _ => ⟨b, 0, rfl, trivial, ⟨ea, en, ec, h, hs⟩, ⟨fa, fn, fc, by simpa using h', hs'⟩, trivial⟩⟩
abbrev nP : Pay := (0, 0, ⟨#[]⟩, ⟨#[]⟩, ⟨#[]⟩)
abbrev litP (k i : Int) : Pg := (1, k, i, ⟨#[]⟩, ⟨#[]⟩, ⟨#[]⟩)
abbrev xEq : Pg × Tg := ((8, nP), .node 0 0 (litP 1 1) .nil (.node 0 0 (litP 1 1) .nil .nil))
abbrev xNot : Pg × Tg := ((4, nP), .node 0 0 (litP 1 1) .nil .nil)
abbrev qSel : Sq := ⟨6, ⟨#[113]⟩, ⟨#[]⟩, [], [], ⟨#[]⟩, [], [], []⟩
abbrev sSel : Sv := ⟨6, ⟨#[113]⟩, ⟨#[]⟩, (none, 0, 0), (none, 0, 0), (none, 0, 0), (none, 0, 0), ⟨#[]⟩, (none, 0, 0), (none, 0, 0), (none, 0, 0), false, (none, 0, 0)⟩
end Go.Proofs.Ytbmfehacnigknaa
namespace Go.Proofs.Ytbmfehacnigknaa
open Go.RowKit
set_option linter.unusedVariables false
set_option linter.unusedSimpArgs false

/-- Two literals, one beside the other, and a way. -/
abbrev litV (v : Vt) : Pg := (1, v.1, v.2.1, v.2.2, ⟨#[]⟩, ⟨#[]⟩)
abbrev xTwo (op : Int) (a b : Vt) : Pg × Tg := ((op, nP), .node 0 0 (litV a) .nil (.node 0 0 (litV b) .nil .nil))
theorem xTwo_in (op : Int) (a b : Vt) (w1 : World) : eG.E (fun _ => True) (w1.alloc (.cells #[.int .i64 1, .int .i64 a.1, .int .i64 a.2.1, .string a.2.2, .string ⟨#[]⟩, .string ⟨#[]⟩, .slice none 0 0, .int .i64 1, .int .i64 b.1, .int .i64 b.2.1, .string b.2.2, .string ⟨#[]⟩, .string ⟨#[]⟩, .slice none 0 0] 41)) (xTwo op a b) [.int .i64 op, .int .i64 0, .int .i64 0, .string ⟨#[]⟩, .string ⟨#[]⟩, .string ⟨#[]⟩, .slice (some ⟨w1.heap.size, 0, none⟩) 2 2] := by
  have hc2 := cell_new w1 #[.int .i64 1, .int .i64 a.1, .int .i64 a.2.1, .string a.2.2, .string ⟨#[]⟩, .string ⟨#[]⟩, .slice none 0 0, .int .i64 1, .int .i64 b.1, .int .i64 b.2.1, .string b.2.2, .string ⟨#[]⟩, .string ⟨#[]⟩, .slice none 0 0] 41 (0, 0)
  exact ⟨_, _, _, rfl, slF2 (p := litV a) (q := litV b) ⟨hc2 0, hc2 1, hc2 2, hc2 3, hc2 4, hc2 5, hc2 6⟩ (SlF.nil _ _) ⟨hc2 7, hc2 8, hc2 9, hc2 10, hc2 11, hc2 12, hc2 13⟩ (SlF.nil _ _)⟩
theorem xTwo_wf {op : Int} (hop : 5 ≤ op ∧ op ≤ 15) {a b : Vt} (ha : Gd a) (hb : Gd b) : wfT (xTwo op a b) := ⟨by show (2 : Int) = partsP op; unfold partsP; rw [if_neg (by omega), if_neg (by omega), if_neg (by omega), if_neg (by omega), if_pos hop], gd_z, ⟨⟨rfl, ha, trivial⟩, ⟨rfl, hb, trivial⟩, trivial⟩⟩
/-- Both Evals of two literals. -/
theorem evTwo_any {op : Int} (hop : 5 ≤ op ∧ op ≤ 15) {a b : Vt} (ha : Gd a) (hb : Gd b) (Q : Nat → Prop) {w : World} {cs : List Value} (hx : eG.E Q w (xTwo op a b) cs) :
    Calls Try.prog 14 #[.slice none 0 0, .slice none 0 0, .agg cs.toArray] w fun en w' => en = .returned (.tuple #[vV (evE [] [] (xTwo op a b)).1, .int .i64 (evE [] [] (xTwo op a b)).2]) ∧ Below w.heap.size w w' :=
  evalV_any (by simp) rfl (fun v hv => by simp at hv) _ (wf_ft (xTwo_wf hop ha hb)) (evT_gd (fun v hv => by simp at hv) gd_z).2 (RowIs.nil _ _ _) (RowIs.nil _ _ _) hx
theorem begun_plain : evE [] [] (xTwo 5 (1, 1, ⟨#[]⟩) (1, 1, ⟨#[]⟩)) = ((1, 2, ⟨#[]⟩), 0) := by decide +kernel
set_option maxRecDepth 100000 in
set_option maxHeartbeats 4000000 in
theorem begun11_any (w : World) : Calls Try.prog 8 #[] w fun e w' => e = .returned (.bool true) ∧ Below w.heap.size w w' := by
  have hw := bal (Below.refl w.heap.size w) (.cells #[.int .i64 1, .int .i64 1, .int .i64 1, .string ⟨#[]⟩, .string ⟨#[]⟩, .string ⟨#[]⟩, .slice none 0 0] 41)
  have bx := Bk.new w (.cells #[.int .i64 1, .int .i64 1, .int .i64 1, .string ⟨#[]⟩, .string ⟨#[]⟩, .string ⟨#[]⟩, .slice none 0 0] 41)
  have HK1 : Hid (∀ w1 : World, Calls Try.prog 14 #[.slice none 0 0, .slice none 0 0, .agg #[.int .i64 5, .int .i64 0, .int .i64 0, .string ⟨#[]⟩, .string ⟨#[]⟩, .string ⟨#[]⟩, .slice (some ⟨w1.heap.size, 0, none⟩) 2 2]] (w1.alloc (.cells #[.int .i64 1, .int .i64 1, .int .i64 1, .string ⟨#[]⟩, .string ⟨#[]⟩, .string ⟨#[]⟩, .slice none 0 0, .int .i64 1, .int .i64 1, .int .i64 1, .string ⟨#[]⟩, .string ⟨#[]⟩, .string ⟨#[]⟩, .slice none 0 0] 41)) fun en w' => en = .returned (.tuple #[vV (1, 2, ⟨#[]⟩), .int .i64 0]) ∧ Below (w1.alloc (.cells #[.int .i64 1, .int .i64 1, .int .i64 1, .string ⟨#[]⟩, .string ⟨#[]⟩, .string ⟨#[]⟩, .slice none 0 0, .int .i64 1, .int .i64 1, .int .i64 1, .string ⟨#[]⟩, .string ⟨#[]⟩, .string ⟨#[]⟩, .slice none 0 0] 41)).heap.size (w1.alloc (.cells #[.int .i64 1, .int .i64 1, .int .i64 1, .string ⟨#[]⟩, .string ⟨#[]⟩, .string ⟨#[]⟩, .slice none 0 0, .int .i64 1, .int .i64 1, .int .i64 1, .string ⟨#[]⟩, .string ⟨#[]⟩, .string ⟨#[]⟩, .slice none 0 0] 41)) w') := hid fun w1 => by
    have h := evTwo_any (op := 5) (by decide) (a := (1, 1, ⟨#[]⟩)) (b := (1, 1, ⟨#[]⟩)) ⟨by decide, by decide⟩ ⟨by decide, by decide⟩ _ (xTwo_in 5 (1, 1, ⟨#[]⟩) (1, 1, ⟨#[]⟩) w1)
    rw [begun_plain] at h
    exact h
  have HN : Hid _ := hid holdsNil_any
  go_enter Try.func8, Try.ntmps8
  go_upto_region 2 with fail
  generalize w.alloc (.cells #[.int .i64 1, .int .i64 1, .int .i64 1, .string ⟨#[]⟩, .string ⟨#[]⟩, .string ⟨#[]⟩, .slice none 0 0] 41) = W at *
  have d0 := bx.cell 0
  have d1 := bx.cell 1
  have d2 := bx.cell 2
  have d3 := bx.cell 3
  have d4 := bx.cell 4
  have d5 := bx.cell 5
  have d6 := bx.cell 6
  simp only [List.getElem?_toArray, List.getElem?_cons_zero, List.getElem?_cons_succ] at d0 d1 d2 d3 d4 d5 d6
  clear bx
  go_wp2_with fail
  refine Calls.mono (HK1.out _) ?_
  rintro e w2 ⟨rfl, hb2⟩
  have hB2 := bal (Below.on hw (Below.on (bal (Below.refl _ W) _) hb2)) (.cells #[.int .i64 1, .int .i64 2, .string ⟨#[]⟩] 38)
  have by0 := Bk.new w2 (.cells #[.int .i64 1, .int .i64 2, .string ⟨#[]⟩] 38)
  clear hb2 HK1 d0 d1 d2 d3 d4 d5 d6
  go_upto_region 3 with fail
  generalize w2.alloc (.cells #[.int .i64 1, .int .i64 2, .string ⟨#[]⟩] 38) = W2 at *
  have y0 := by0.cell 0
  have y1 := by0.cell 1
  simp only [List.getElem?_toArray, List.getElem?_cons_zero, List.getElem?_cons_succ] at y0 y1
  clear by0
  go_wp2_with fail
  refine Calls.mono (HN.out _) ?_
  rintro e w3 ⟨rfl, hb3⟩
  have hB3 := Below.on hB2 hb3
  replace y0 := cell_later hb3 y0
  replace y1 := cell_later hb3 y1
  clear HN hb3 hB2
  go_wp2
  go_ret
  exact ⟨rfl, hB3⟩

theorem runV_eq (k i : Int) (s : ByteArray) (w : World) :
    (binOp .eql 38 (.agg #[.int .i64 k, .int .i64 i, .string s]) (.agg #[.int .i64 k, .int .i64 i, .string s])).run Try.prog w = .ok (.bool true) w := by
  go_simp
theorem wrapK {K : Int} (h0 : 0 ≤ K) (h1 : K ≤ 1000) : IntKind.i64.wrap K = K := by
  show (if (true && decide (K % (2 ^ 64 : Int) ≥ (2 ^ (64 - 1) : Int))) = true then K % (2 ^ 64 : Int) - (2 ^ 64 : Int) else K % (2 ^ 64 : Int)) = _
  rw [if_neg (by simp; omega)]
  omega
end Go.Proofs.Ytbmfehacnigknaa
namespace Go.Proofs.Ytbmfehacnigknaa
open Go.RowKit
set_option linter.unusedVariables false
set_option linter.unusedSimpArgs false

theorem nums_nil {s : ByteArray} (h : nums s = []) : s = ⟨#[]⟩ := nums_inj (h.trans rfl)
theorem mayV_gd {k n : Int} {s : ByteArray} (hf : Fits n) (h : mayV k n (nums s) = true) : Gd (k, n, s) ∧ (k = 1 ∨ k = 2) := by
  rcases mayV_one h with ⟨rfl, h1⟩ | ⟨rfl, h1, h2, _⟩
  · rw [nums_nil h1]; exact ⟨⟨hf, Nat.zero_le 500⟩, .inl rfl⟩
  · rw [nums_len] at h2
    exact ⟨⟨hf, by show s.size ≤ 500; omega⟩, .inr rfl⟩
theorem cmpVt_zero {a b : Vt} : cmpVt a b = 0 ↔ a = b := by
  obtain ⟨a0, a1, a2⟩ := a
  obtain ⟨b0, b1, b2⟩ := b
  unfold cmpVt
  rw [cmpV_zero]
  constructor
  · rintro ⟨h1, h2, h3⟩
    dsimp only at *
    rw [h1, h2, nums_inj h3]
  · intro h
    injection h with h1 h2
    injection h2 with h2 h3
    exact ⟨h1, h2, by rw [h3]⟩
end Go.Proofs.Ytbmfehacnigknaa
namespace Go.Proofs.Ytbmfehacnigknaa
open Go.ChangeShapes Go.WideShapes Go.ChangeAt Go.RowKit
set_option linter.unusedVariables false

theorem own : ownKnob Try.prog.godebug = none := by kernel_rfl
theorem laidOut : laidOutB Try.prog = true := by kernel_rfl

/-- A byte that came in. -/
theorem u8_is {a : Int} (h : (Lit.int .u8 a).wf = true) : ∃ x : UInt8, a = (x.toNat : Int) := by
  have := bounds_u8 h
  refine ⟨UInt8.ofNat a.toNat, ?_⟩
  rw [UInt8.toNat_ofNat']
  omega

end Go.Proofs.Ytbmfehacnigknaa
namespace Go.Proofs.Ytbmfehacnigknaa
open Go.ChangeShapes Go.WideShapes Go.ChangeAt Go.RowKit
set_option linter.unusedVariables false
set_option linter.unusedSimpArgs false

theorem cVal : Try.prog.cellsOf 38 = 3 := by kernel_rfl
theorem cI64 : Try.prog.cellsOf 2 = 1 := by kernel_rfl
theorem cInt : Try.prog.cellsOf 3 = 1 := by kernel_rfl
theorem cStr : Try.prog.cellsOf 9 = 1 := by kernel_rfl
theorem addr1 (b o m : Nat) : (⟨b, o, none⟩ : Addr).add m = ⟨b, o + m, none⟩ := by unfold Addr.add; split <;> simp_all
theorem addrV_at (b o i j : Nat) : ((⟨b, o, none⟩ : Addr).add i).add j = ⟨b, o + i + j, none⟩ := by rw [addr1, addr1]
set_option maxRecDepth 100000 in
theorem open_values {H : Type} {enc : TypeId × Value → H} {W : World} {r : Reach} {b0 base : Nat} {sp : Nat → Bool} {held : Bool} {v : Value} {d : DataW H} {ps : List MemPlace} (hval : Value.okWide Try.prog W r b0 45 v) (hd : DataW.Trod enc Try.prog W base sp held 45 v d ps) :
    ∃ a len cap, ∃ V : List Vt, v = .slice a len cap ∧ RowIs eVal (fun _ => True) W (.slice a len cap) V ∧ ∀ v ∈ V, Fits v.2.1 ∧ v.2.2.size ≤ maxLen := by
  obtain ⟨a, len, cap, rfl⟩ := okWide_slice Try.underlying45 hval
  obtain ⟨fuel, hf⟩ := hd
  rcases Go.Deep.open_slice Try.underlying45 hf with ⟨hcs, _⟩ | ⟨x, l, c, m, nn, D, Pl, hcs, hb, hl, hm, hmm, _, hx⟩
  · simp [Value.cells] at hcs
    obtain ⟨rfl, rfl, rfl⟩ := hcs
    exact ⟨none, 0, 0, [], rfl, RowIs.nil _ _ _, fun v hv => by simp at hv⟩
  · simp [Value.cells] at hcs
    obtain ⟨rfl, rfl, rfl⟩ := hcs
    have hlm : len ≤ m := by rw [hmm]; split <;> omega
    have one : ∀ i, i < len → ∃ u : Vt, (∀ j, j < 3 → W.cell? ((x.add (i * 3)).add j) = ([.int .i64 u.1, .int .i64 u.2.1, .string u.2.2] : List Value)[j]?) ∧ Fits u.2.1 ∧ u.2.2.size ≤ maxLen := by
      intro i hi
      obtain ⟨cs, h1, h2⟩ := hx i (by omega)
      rw [cVal] at h1
      obtain ⟨_, hlen, hcell⟩ := World.cells?_some h1
      match cs, hlen with
      | [c0, c1, c2], _ =>
      obtain ⟨y0, y1, y2, k, _, _, hy0, hy1, hy2⟩ := Go.Deep.trod_struct3 Try.underlying38 h2
      simp only [cInt, cI64, cStr, List.drop_zero, List.take_succ_cons, List.take_zero, List.drop_succ_cons] at hy0 hy1 hy2
      obtain ⟨a0, e0, _, wa⟩ := DataW.trod_int Try.underlying3 hy0
      obtain ⟨s1, e1, _, w1⟩ := DataW.trod_int Try.underlying2 hy1
      obtain ⟨s2, e2, _, w2⟩ := DataW.trod_string Try.underlying9 hy2
      cases e0
      cases e1
      cases e2
      exact ⟨(a0, s1, s2), hcell, bounds_i64 w1, w2⟩
    obtain ⟨f, hfn⟩ := Go.Deep.choose_lt (α := Vt) one
    refine ⟨some x, len, cap, (List.range len).map f, rfl, ⟨some x, len, cap, rfl, by simp, hl, by simpa [maxLen] using hm, fun hp => ?_⟩, fun v hv => ?_⟩
    · obtain ⟨b, off, spot⟩ := x
      have h0 := (hfn 0 hp).1 0 (by decide)
      have hspot : spot = none := by simpa [Addr.add] using World.cell?_spot h0
      subst hspot
      refine ⟨b, off, rfl, trivial, fun i hi => ⟨_, rfl, rfl, fun j hj => ?_⟩⟩
      have hi' : i < len := by simpa using hi
      have hj' : j < 3 := hj
      have := (hfn i hi').1 j hj'
      rw [addrV_at] at this
      refine this.trans ?_
      rw [show ((List.range len).map f)[i] = f i from by simp]
      match j, hj' with
      | 0, _ => rfl
      | 1, _ => rfl
      | 2, _ => rfl
    · obtain ⟨i, hi, rfl⟩ := List.mem_map.1 hv
      exact (hfn i (by simpa using hi)).2

end Go.Proofs.Ytbmfehacnigknaa
