import Derived.Test.YtbmfehacnigknaaQcag
import Derived.Deep.RegionHeld3
import Derived.Test.YtbmfehacnigknaaQcab
namespace Go.Proofs.Ytbmfehacnigknaa
open Go.RowKit
set_option linter.unusedVariables false
set_option linter.unusedSimpArgs false

end Go.Proofs.Ytbmfehacnigknaa
namespace Go.Proofs.Ytbmfehacnigknaa
open Go.RowKit
set_option linter.unusedVariables false
set_option linter.unusedSimpArgs false

end Go.Proofs.Ytbmfehacnigknaa
namespace Go.Proofs.Ytbmfehacnigknaa
open Go.RowKit
set_option linter.unusedVariables false
set_option linter.unusedSimpArgs false

end Go.Proofs.Ytbmfehacnigknaa
namespace Go.Proofs.Ytbmfehacnigknaa
open Go.RowKit
set_option linter.unusedVariables false
set_option linter.unusedSimpArgs false

end Go.Proofs.Ytbmfehacnigknaa
namespace Go.Proofs.Ytbmfehacnigknaa
open Go.RowKit
set_option linter.unusedVariables false
set_option linter.unusedSimpArgs false

end Go.Proofs.Ytbmfehacnigknaa
namespace Go.Proofs.Ytbmfehacnigknaa
open Go.RowKit
set_option linter.unusedVariables false
set_option linter.unusedSimpArgs false

end Go.Proofs.Ytbmfehacnigknaa
namespace Go.Proofs.Ytbmfehacnigknaa
open Go.RowKit
set_option linter.unusedVariables false
set_option linter.unusedSimpArgs false

end Go.Proofs.Ytbmfehacnigknaa
namespace Go.Proofs.Ytbmfehacnigknaa
open Go.RowKit
set_option linter.unusedVariables false

abbrev zE2 : Obj := .cells #[.int .i64 0, .int .i64 0, .int .i64 0, .string ⟨#[]⟩, .string ⟨#[]⟩, .string ⟨#[]⟩, .slice none 0 0] 41

end Go.Proofs.Ytbmfehacnigknaa
namespace Go.Proofs.Ytbmfehacnigknaa
open Go.RowKit
set_option linter.unusedVariables false

end Go.Proofs.Ytbmfehacnigknaa
namespace Go.Proofs.Ytbmfehacnigknaa
open Go.RowKit
set_option linter.unusedVariables false

/-- A table: its name, its columns. -/
abbrev Tab := ByteArray × List Co
end Go.Proofs.Ytbmfehacnigknaa
namespace Go.Proofs.Ytbmfehacnigknaa
open Go.RowKit
set_option linter.unusedVariables false

end Go.Proofs.Ytbmfehacnigknaa
namespace Go.Proofs.Ytbmfehacnigknaa
open Go.RowKit
set_option linter.unusedVariables false

end Go.Proofs.Ytbmfehacnigknaa
namespace Go.Proofs.Ytbmfehacnigknaa
open Go.RowKit
set_option linter.unusedVariables false
set_option linter.unusedSimpArgs false

end Go.Proofs.Ytbmfehacnigknaa
namespace Go.Proofs.Ytbmfehacnigknaa
open Go.RowKit
set_option linter.unusedVariables false
set_option linter.unusedSimpArgs false

end Go.Proofs.Ytbmfehacnigknaa
namespace Go.Proofs.Ytbmfehacnigknaa
open Go.RowKit
set_option linter.unusedVariables false
set_option linter.unusedSimpArgs false

end Go.Proofs.Ytbmfehacnigknaa
namespace Go.Proofs.Ytbmfehacnigknaa
open Go.RowKit
set_option linter.unusedVariables false
set_option linter.unusedSimpArgs false

end Go.Proofs.Ytbmfehacnigknaa
namespace Go.Proofs.Ytbmfehacnigknaa
open Go.RowKit
set_option linter.unusedVariables false
set_option linter.unusedSimpArgs false

end Go.Proofs.Ytbmfehacnigknaa
namespace Go.Proofs.Ytbmfehacnigknaa
open Go.RowKit
set_option linter.unusedVariables false
set_option linter.unusedSimpArgs false

abbrev clC (c : Cl3) : List Value := [.string c.1, .string c.2.1, .int .i64 c.2.2]
end Go.Proofs.Ytbmfehacnigknaa
namespace Go.Proofs.Ytbmfehacnigknaa
open Go.RowKit
set_option linter.unusedVariables false
set_option linter.unusedSimpArgs false

/-- A statement as typed looks at it. -/
structure Sq where
  kind : Int
  table : ByteArray
  name : ByteArray
  values : List (Pg × Tg)
  items : List It
  join : ByteArray
  on : List (Pg × Tg)
  wh : List (Pg × Tg)
  order : List (Pg × Tg)
end Go.Proofs.Ytbmfehacnigknaa
namespace Go.Proofs.Ytbmfehacnigknaa
open Go.RowKit
set_option linter.unusedVariables false
set_option linter.unusedSimpArgs false

end Go.Proofs.Ytbmfehacnigknaa
namespace Go.Proofs.Ytbmfehacnigknaa
open Go.RowKit
set_option linter.unusedVariables false
set_option linter.unusedSimpArgs false

end Go.Proofs.Ytbmfehacnigknaa
namespace Go.Proofs.Ytbmfehacnigknaa
open Go.RowKit
set_option linter.unusedVariables false
set_option linter.unusedSimpArgs false

end Go.Proofs.Ytbmfehacnigknaa
namespace Go.Proofs.Ytbmfehacnigknaa
open Go.RowKit
set_option linter.unusedVariables false
set_option linter.unusedSimpArgs false

end Go.Proofs.Ytbmfehacnigknaa
namespace Go.Proofs.Ytbmfehacnigknaa
open Go.RowKit
set_option linter.unusedVariables false
set_option linter.unusedSimpArgs false

end Go.Proofs.Ytbmfehacnigknaa
namespace Go.Proofs.Ytbmfehacnigknaa
open Go.RowKit
set_option linter.unusedVariables false
set_option linter.unusedSimpArgs false

abbrev tbT : Tbl := ⟨⟨#[116]⟩, [(⟨#[107]⟩, 1, ⟨#[]⟩), (⟨#[118]⟩, 2, ⟨#[]⟩), (⟨#[110]⟩, 1, ⟨#[]⟩)], [⟨#[110]⟩]⟩
abbrev tbU : Tbl := ⟨⟨#[117]⟩, [(⟨#[107]⟩, 2, ⟨#[]⟩), (⟨#[114]⟩, 1, ⟨#[116]⟩), (⟨#[110]⟩, 1, ⟨#[]⟩)], []⟩
abbrev tbs : List Tbl := [tbT, tbU]
end Go.Proofs.Ytbmfehacnigknaa
namespace Go.Proofs.Ytbmfehacnigknaa
open Go.RowKit
set_option linter.unusedVariables false
set_option linter.unusedSimpArgs false

end Go.Proofs.Ytbmfehacnigknaa
namespace Go.Proofs.Ytbmfehacnigknaa
open Go.RowKit
set_option linter.unusedVariables false
set_option linter.unusedSimpArgs false

/-- Every part has as many parts as it must have; numbers fit, texts are not too long. -/
def wfF : Tg → Prop
  | .nil => True
  | .node _ _ p l r => (((toL l).length : Int) = partsP p.1 ∧ Gd (p.2.1, p.2.2.1, p.2.2.2.1) ∧ wfF l) ∧ wfF r
def wfT (x : Pg × Tg) : Prop := ((toL x.2).length : Int) = partsP x.1.1 ∧ Gd (x.1.2.1, x.1.2.2.1, x.1.2.2.2.1) ∧ wfF x.2
theorem wf_ftF : ∀ {f : Tg}, wfF f → ftF f := by
  intro f
  induction f with
  | nil => intro _; trivial
  | node a b p l r ihl ihr => exact fun h => ⟨h.1.2.1.1, ihl h.1.2.2, ihr h.2⟩
theorem wf_ft {x : Pg × Tg} (h : wfT x) : ftT x := ⟨h.2.1.1, wf_ftF h.2.2⟩
end Go.Proofs.Ytbmfehacnigknaa
namespace Go.Proofs.Ytbmfehacnigknaa
open Go.RowKit
set_option linter.unusedVariables false
set_option linter.unusedSimpArgs false

def nz (r : Vt × Int) : Vt × Int := if r.2 ≠ 0 then (vZ, r.2) else r
def evW (op : Int) (r0 r1 : Vt × Int) : Vt × Int := if erL [r0.2, r1.2] ≠ 0 then (vZ, erL [r0.2, r1.2]) else madeP op [r0.1, r1.1]
end Go.Proofs.Ytbmfehacnigknaa
namespace Go.Proofs.Ytbmfehacnigknaa
open Go.RowKit
set_option linter.unusedVariables false
set_option linter.unusedSimpArgs false

theorem ev1_gd {C : List It} {V : List Vt} (hV : ∀ v ∈ V, Gd v) {p : Pg} (hp : Gd (p.2.1, p.2.2.1, p.2.2.2.1)) {rs : List (Vt × Int)} : Gd (ev1 C V p rs).1 := by
  unfold ev1
  split
  · exact gd_z
  split
  · exact hp
  split
  · unfold colV
    split
    · cases h : V[(fidx (itV p.2.2.2.2.1 p.2.2.2.2.2) C).toNat]? with
      | none => exact gd_z
      | some v => exact hV v (List.mem_of_getElem? h)
    · exact gd_z
  split
  · unfold upP
    split
    · exact gd_tr _
    split
    · exact gd_tr _
    split
    · exact gd_tr _
    · exact gd_tr _
  split
  · unfold upP
    split
    · exact gd_tr _
    split
    · exact gd_tr _
    split
    · exact gd_tr _
    · exact gd_tr _
  split
  · exact gd_z
  unfold madeP
  split
  · unfold recP
    split
    · exact gd_z
    · exact gd_num _
  split
  · exact gd_tr _
  unfold cmpdP
  split
  · exact gd_z
  · exact gd_tr _
theorem evT_gd {C : List It} {V : List Vt} (hV : ∀ v ∈ V, Gd v) {x : Pg × Tg} (hx : Gd (x.1.2.1, x.1.2.2.1, x.1.2.2.2.1)) : Gd (evT C V x).1 := ev1_gd hV hx
theorem evT_two {C : List It} {V : List Vt} {x u v : Pg × Tg} (hop : 5 ≤ x.1.1 ∧ x.1.1 ≤ 13) (hl : toL x.2 = [u, v]) : evT C V x = evW x.1.1 (evT C V u) (evT C V v) := by
  have hp : partsP x.1.1 = 2 := by unfold partsP; rw [if_neg (by omega), if_neg (by omega), if_neg (by omega), if_neg (by omega), if_pos (by omega)]
  unfold evT ev1
  rw [evs_map, hl, if_neg (by rw [hp]; intro h; exact h rfl), if_neg (by omega), if_neg (by omega), if_neg (by omega), if_neg (by omega)]
  rfl
theorem evE_nz (C : List It) (V : List Vt) (x : Pg × Tg) : evE C V x = nz (evT C V x) := rfl
end Go.Proofs.Ytbmfehacnigknaa
namespace Go.Proofs.Ytbmfehacnigknaa
open Go.RowKit
set_option linter.unusedVariables false
set_option linter.unusedSimpArgs false

theorem SlF.nil (Q : Nat → Prop) (w : World) : SlF Q w none 0 0 .nil := ⟨rfl, Nat.le_refl _, by omega, fun h => absurd h (Nat.lt_irrefl _)⟩
theorem slF2 {w : World} {b : Nat} {p q : Pg} {l r : Tg} {ea : Option Addr} {en ec : Nat} {fa : Option Addr} {fn fc : Nat} (h : Ce w b 0 p.1 p.2 (.slice ea en ec)) (hs : SlF (fun _ => True) w ea en ec l) (h' : Ce w b 7 q.1 q.2 (.slice fa fn fc)) (hs' : SlF (fun _ => True) w fa fn fc r) : SlF (fun _ => True) w (some ⟨b, 0, none⟩) 2 2 (.node 0 0 p l (.node 0 0 q r .nil)) :=
  ⟨rfl, Nat.le_refl _, by omega, fun _ => ⟨b, 0, rfl, trivial, ⟨ea, en, ec, h, hs⟩, ⟨fa, fn, fc, by simpa using h', hs'⟩, trivial⟩⟩
abbrev nP : Pay := (0, 0, ⟨#[]⟩, ⟨#[]⟩, ⟨#[]⟩)
abbrev litP (k i : Int) : Pg := (1, k, i, ⟨#[]⟩, ⟨#[]⟩, ⟨#[]⟩)
abbrev xEq : Pg × Tg := ((8, nP), .node 0 0 (litP 1 1) .nil (.node 0 0 (litP 1 1) .nil .nil))
abbrev xNot : Pg × Tg := ((4, nP), .node 0 0 (litP 1 1) .nil .nil)
abbrev qSel : Sq := ⟨6, ⟨#[113]⟩, ⟨#[]⟩, [], [], ⟨#[]⟩, [], [], []⟩
abbrev sSel : Sv := ⟨6, ⟨#[113]⟩, ⟨#[]⟩, (none, 0, 0), (none, 0, 0), (none, 0, 0), (none, 0, 0), ⟨#[]⟩, (none, 0, 0), (none, 0, 0), (none, 0, 0), false, (none, 0, 0)⟩
end Go.Proofs.Ytbmfehacnigknaa
namespace Go.Proofs.Ytbmfehacnigknaa
open Go.RowKit
set_option linter.unusedVariables false
set_option linter.unusedSimpArgs false

/-- Two literals, one beside the other, and a way. -/
abbrev litV (v : Vt) : Pg := (1, v.1, v.2.1, v.2.2, ⟨#[]⟩, ⟨#[]⟩)
abbrev xTwo (op : Int) (a b : Vt) : Pg × Tg := ((op, nP), .node 0 0 (litV a) .nil (.node 0 0 (litV b) .nil .nil))
theorem xTwo_in (op : Int) (a b : Vt) (w1 : World) : eG.E (fun _ => True) (w1.alloc (.cells #[.int .i64 1, .int .i64 a.1, .int .i64 a.2.1, .string a.2.2, .string ⟨#[]⟩, .string ⟨#[]⟩, .slice none 0 0, .int .i64 1, .int .i64 b.1, .int .i64 b.2.1, .string b.2.2, .string ⟨#[]⟩, .string ⟨#[]⟩, .slice none 0 0] 41)) (xTwo op a b) [.int .i64 op, .int .i64 0, .int .i64 0, .string ⟨#[]⟩, .string ⟨#[]⟩, .string ⟨#[]⟩, .slice (some ⟨w1.heap.size, 0, none⟩) 2 2] := by
  have hc2 := cell_new w1 #[.int .i64 1, .int .i64 a.1, .int .i64 a.2.1, .string a.2.2, .string ⟨#[]⟩, .string ⟨#[]⟩, .slice none 0 0, .int .i64 1, .int .i64 b.1, .int .i64 b.2.1, .string b.2.2, .string ⟨#[]⟩, .string ⟨#[]⟩, .slice none 0 0] 41 (0, 0)
  exact ⟨_, _, _, rfl, slF2 (p := litV a) (q := litV b) ⟨hc2 0, hc2 1, hc2 2, hc2 3, hc2 4, hc2 5, hc2 6⟩ (SlF.nil _ _) ⟨hc2 7, hc2 8, hc2 9, hc2 10, hc2 11, hc2 12, hc2 13⟩ (SlF.nil _ _)⟩
theorem xTwo_wf {op : Int} (hop : 5 ≤ op ∧ op ≤ 15) {a b : Vt} (ha : Gd a) (hb : Gd b) : wfT (xTwo op a b) := ⟨by show (2 : Int) = partsP op; unfold partsP; rw [if_neg (by omega), if_neg (by omega), if_neg (by omega), if_neg (by omega), if_pos hop], gd_z, ⟨⟨rfl, ha, trivial⟩, ⟨rfl, hb, trivial⟩, trivial⟩⟩
/-- Both Evals of two literals. -/
theorem evTwo_any {op : Int} (hop : 5 ≤ op ∧ op ≤ 15) {a b : Vt} (ha : Gd a) (hb : Gd b) (Q : Nat → Prop) {w : World} {cs : List Value} (hx : eG.E Q w (xTwo op a b) cs) :
    Calls Try.prog 14 #[.slice none 0 0, .slice none 0 0, .agg cs.toArray] w fun en w' => en = .returned (.tuple #[vV (evE [] [] (xTwo op a b)).1, .int .i64 (evE [] [] (xTwo op a b)).2]) ∧ Below w.heap.size w w' :=
  evalV_any (by simp) rfl (fun v hv => by simp at hv) _ (wf_ft (xTwo_wf hop ha hb)) (evT_gd (fun v hv => by simp at hv) gd_z).2 (RowIs.nil _ _ _) (RowIs.nil _ _ _) hx
theorem begun_plain : evE [] [] (xTwo 5 (1, 1, ⟨#[]⟩) (1, 1, ⟨#[]⟩)) = ((1, 2, ⟨#[]⟩), 0) := by decide +kernel
set_option maxRecDepth 100000 in
set_option maxHeartbeats 4000000 in
theorem begun11_any (w : World) : Calls Try.prog 8 #[] w fun e w' => e = .returned (.bool true) ∧ Below w.heap.size w w' := by
  have hw := bal (Below.refl w.heap.size w) (.cells #[.int .i64 1, .int .i64 1, .int .i64 1, .string ⟨#[]⟩, .string ⟨#[]⟩, .string ⟨#[]⟩, .slice none 0 0] 41)
  have bx := Bk.new w (.cells #[.int .i64 1, .int .i64 1, .int .i64 1, .string ⟨#[]⟩, .string ⟨#[]⟩, .string ⟨#[]⟩, .slice none 0 0] 41)
  have HK1 : Hid (∀ w1 : World, Calls Try.prog 14 #[.slice none 0 0, .slice none 0 0, .agg #[.int .i64 5, .int .i64 0, .int .i64 0, .string ⟨#[]⟩, .string ⟨#[]⟩, .string ⟨#[]⟩, .slice (some ⟨w1.heap.size, 0, none⟩) 2 2]] (w1.alloc (.cells #[.int .i64 1, .int .i64 1, .int .i64 1, .string ⟨#[]⟩, .string ⟨#[]⟩, .string ⟨#[]⟩, .slice none 0 0, .int .i64 1, .int .i64 1, .int .i64 1, .string ⟨#[]⟩, .string ⟨#[]⟩, .string ⟨#[]⟩, .slice none 0 0] 41)) fun en w' => en = .returned (.tuple #[vV (1, 2, ⟨#[]⟩), .int .i64 0]) ∧ Below (w1.alloc (.cells #[.int .i64 1, .int .i64 1, .int .i64 1, .string ⟨#[]⟩, .string ⟨#[]⟩, .string ⟨#[]⟩, .slice none 0 0, .int .i64 1, .int .i64 1, .int .i64 1, .string ⟨#[]⟩, .string ⟨#[]⟩, .string ⟨#[]⟩, .slice none 0 0] 41)).heap.size (w1.alloc (.cells #[.int .i64 1, .int .i64 1, .int .i64 1, .string ⟨#[]⟩, .string ⟨#[]⟩, .string ⟨#[]⟩, .slice none 0 0, .int .i64 1, .int .i64 1, .int .i64 1, .string ⟨#[]⟩, .string ⟨#[]⟩, .string ⟨#[]⟩, .slice none 0 0] 41)) w') := hid fun w1 => by
    have h := evTwo_any (op := 5) (by decide) (a := (1, 1, ⟨#[]⟩)) (b := (1, 1, ⟨#[]⟩)) ⟨by decide, by decide⟩ ⟨by decide, by decide⟩ _ (xTwo_in 5 (1, 1, ⟨#[]⟩) (1, 1, ⟨#[]⟩) w1)
    rw [begun_plain] at h
    exact h
  have HN : Hid _ := hid holdsNil_any
  go_enter Try.func8, Try.ntmps8
  go_upto_region 2 with fail
  generalize w.alloc (.cells #[.int .i64 1, .int .i64 1, .int .i64 1, .string ⟨#[]⟩, .string ⟨#[]⟩, .string ⟨#[]⟩, .slice none 0 0] 41) = W at *
  have d0 := bx.cell 0
  have d1 := bx.cell 1
  have d2 := bx.cell 2
  have d3 := bx.cell 3
  have d4 := bx.cell 4
  have d5 := bx.cell 5
  have d6 := bx.cell 6
  simp only [List.getElem?_toArray, List.getElem?_cons_zero, List.getElem?_cons_succ] at d0 d1 d2 d3 d4 d5 d6
  clear bx
  go_wp2_with fail
  refine Calls.mono (HK1.out _) ?_
  rintro e w2 ⟨rfl, hb2⟩
  have hB2 := bal (Below.on hw (Below.on (bal (Below.refl _ W) _) hb2)) (.cells #[.int .i64 1, .int .i64 2, .string ⟨#[]⟩] 38)
  have by0 := Bk.new w2 (.cells #[.int .i64 1, .int .i64 2, .string ⟨#[]⟩] 38)
  clear hb2 HK1 d0 d1 d2 d3 d4 d5 d6
  go_upto_region 3 with fail
  generalize w2.alloc (.cells #[.int .i64 1, .int .i64 2, .string ⟨#[]⟩] 38) = W2 at *
  have y0 := by0.cell 0
  have y1 := by0.cell 1
  simp only [List.getElem?_toArray, List.getElem?_cons_zero, List.getElem?_cons_succ] at y0 y1
  clear by0
  go_wp2_with fail
  refine Calls.mono (HN.out _) ?_
  rintro e w3 ⟨rfl, hb3⟩
  have hB3 := Below.on hB2 hb3
  replace y0 := cell_later hb3 y0
  replace y1 := cell_later hb3 y1
  clear HN hb3 hB2
  go_wp2
  go_ret
  exact ⟨rfl, hB3⟩

theorem runV_eq (k i : Int) (s : ByteArray) (w : World) :
    (binOp .eql 38 (.agg #[.int .i64 k, .int .i64 i, .string s]) (.agg #[.int .i64 k, .int .i64 i, .string s])).run Try.prog w = .ok (.bool true) w := by
  go_simp
theorem wrapK {K : Int} (h0 : 0 ≤ K) (h1 : K ≤ 1000) : IntKind.i64.wrap K = K := by
  show (if (true && decide (K % (2 ^ 64 : Int) ≥ (2 ^ (64 - 1) : Int))) = true then K % (2 ^ 64 : Int) - (2 ^ 64 : Int) else K % (2 ^ 64 : Int)) = _
  rw [if_neg (by simp; omega)]
  omega
end Go.Proofs.Ytbmfehacnigknaa
