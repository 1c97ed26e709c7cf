import Derived.Test.YtnboooaockgoiaaGreatDoorPaj
import Derived.Test.YtnboooaockgoiaaGreatDoorPaa
import Derived.Deep.AppendSrc
namespace Go.Proofs.YtnboooaockgoiaaGreatDoor
open Go.RowKit
set_option linter.unusedVariables false
set_option linter.unusedSimpArgs false

theorem run_app2 (w : World) (B : Nat) (tx ty : TypeId) (v x : Value) (l m : List Int) (hown : Own B w v l) (hs : SrcB w tx x m) (hlm : l.length + m.length ≤ 1000000) (hB : B ≤ w.heap.size) :
    ∃ v' w', (Builtin.append_ #[22, tx] ty #[v, x]).run Tryz.prog w = .ok v' w' ∧ Own B w' v' (l ++ m) ∧ w.grownBy w' v.ownBlock ∧ (v'.ownBlock = v.ownBlock ∨ v'.ownBlock = some w.heap.size) := by
  obtain ⟨i, hi, hz, hsz, hby⟩ := info_parts Tryz.info5
  have ht := Tryz.underlying22
  obtain ⟨ll, L, hLl⟩ : ∃ n : Nat, ∃ L : List Value, l.length = n ∧ l.map (Value.int .u8) = L := ⟨_, _, rfl, rfl⟩
  obtain ⟨hL1, hL2⟩ := hLl
  unfold Own at hown ⊢
  unfold SrcB at hs
  have hlen : (l ++ m).map (Value.int .u8) = L ++ m.map (Value.int .u8) := by rw [← hL2, List.map_append]
  have hll : (l ++ m).length = ll + m.length := by rw [← hL1, List.length_append]
  rw [hlen, hll]
  rw [hL1, hL2] at hown
  have hLlen : L.length = ll := by rw [← hL2, ← hL1, List.length_map]
  have grown : ∀ (old : Nat), old < ll + m.length → ∀ (row : Option Nat),
      (w.drew.alloc (.cells ((L ++ m.map (Value.int .u8)).toArray ++ Builtin.zeroCells (Value.int .u8 0).cells (grownCap w (ll + m.length) old 5 - (ll + m.length))) 5)).ownsRow B 5 1
        (.slice (some ⟨w.heap.size, 0, none⟩) (ll + m.length) (grownCap w (ll + m.length) old 5)) (ll + m.length) (L ++ m.map (Value.int .u8)) ∧
      w.grownBy (w.drew.alloc (.cells ((L ++ m.map (Value.int .u8)).toArray ++ Builtin.zeroCells (Value.int .u8 0).cells (grownCap w (ll + m.length) old 5 - (ll + m.length))) 5)) row := by
    intro old ho row
    have hge := grownCap_ge w (ll + m.length) old 5
    have hcm : grownCap w (ll + m.length) old 5 ≤ maxLen := grownCap_le_maxLen w (ll + m.length) old 5 (by unfold maxLen; omega)
    refine ⟨⟨by simp [hLlen], .inr ⟨w.heap.size, _, _, rfl, hB, heap_alloc_new w.drew _, hge, hcm, ?_, ?_⟩⟩, ⟨rfl, rfl, rfl, by simp, fun k hk _ => Below.heap_alloc w.drew _ k hk⟩⟩
    · simp only [Array.size_append, List.size_toArray, size_zeroCells, List.length_append, List.length_map, hLlen]
      simp [Value.cells]
      omega
    · simp only [Array.toList_append]
      have : (ll + m.length) * 1 = (L ++ m.map (Value.int .u8)).length := by simp [hLlen]
      rw [this]
      exact List.take_left
  have h48 : ∀ cap, cap < ll + m.length → Builtin.nextslicecap (ll + m.length) cap * i.bytes ≤ 281474976710656 := fun cap hc => growslice_fits hc (by rw [hby]; omega)
  have hs' : Src Tryz.prog i.size tx x m.length (m.map (Value.int .u8)) w := by rw [hsz]; exact hs
  rcases hown.2 with ⟨rfl, h0⟩ | ⟨g, cap, cur, rfl, hbg, hg, hnc, hcm, hcs, htake⟩
  · subst h0
    obtain rfl : L = [] := List.eq_nil_of_length_eq_zero hLlen
    by_cases hm : m = []
    · subst hm
      refine ⟨.slice none 0 0, w, ?_, World.ownsRow_nil w B 5 1, ⟨rfl, rfl, rfl, Nat.le_refl _, fun _ _ _ => rfl⟩, .inl rfl⟩
      have hc : (Builtin.firstCells i.size 0 x).run Tryz.prog w = .ok #[] w := hs'.cells
      have hl0 : ∀ w' : World, (Builtin.lenOf x).run Tryz.prog w' = .ok 0 w' := hs'.len
      rcases hs'.kind with ⟨e', hk⟩ | hk <;> simp [Builtin.append_, run_underlying ht, run_underlying hk, sizeOf, typeInfo, hi, hl0, hc]
    · have hmp : 0 < m.length := List.length_pos_iff.2 hm
      have hr := run_append_grow_src w 22 tx ty 5 i (.int .u8 0) ht hi hz none 0 0 [] (by simp [Builtin.firstCells]) x m.length _ hs' (by omega) (by omega) (h48 0 (by omega))
      have hgr := grown 0 (by omega) (Value.ownBlock (.slice none 0 0))
      exact ⟨_, _, hr, hgr.1, hgr.2, .inr rfl⟩
  · by_cases hroom : ll + m.length ≤ cap
    · have hfit : ll * i.size + (m.map (Value.int .u8)).length ≤ cur.size := by rw [hsz, List.length_map]; omega
      have hst := run_storeCells_at Tryz.prog g (ll * i.size) 5 (m.map (Value.int .u8)) 0 cur w hg (by simpa using hfit) (ints_one _ _)
      simp only [Nat.add_zero] at hst
      have hr : (Builtin.append_ #[22, tx] ty #[.slice (some ⟨g, 0, none⟩) ll cap, x]).run Tryz.prog w = .ok (.slice (some ⟨g, 0, none⟩) (ll + m.length) cap) (w.setRow g (cur.toList.take (ll * i.size) ++ m.map (Value.int .u8) ++ cur.toList.drop (ll * i.size + (m.map (Value.int .u8)).length)).toArray) := by
        rcases hs'.kind with ⟨e', hk⟩ | hk <;> simp [Builtin.append_, run_underlying ht, run_underlying hk, sizeOf, typeInfo, hi, hs'.len, hroom, hs'.cells, Addr.add_lit, hst]
      rw [hsz] at hr hfit
      refine ⟨_, _, hr, ⟨by simp [hLlen], .inr ⟨g, cap, _, rfl, hbg, setRow_heap w g cur _ 5 _ hg, hroom, hcm, ?_, ?_⟩⟩, ⟨rfl, rfl, rfl, by simp, fun k _ hk => setRow_other w g k _ (fun e => hk (by simp [Value.ownBlock, e]))⟩, .inl rfl⟩
      · simp only [List.size_toArray, List.length_append, List.length_take, List.length_drop, Array.length_toList]
        omega
      · rw [htake]
        have : (ll + m.length) * 1 = (L ++ m.map (Value.int .u8)).length := by simp [hLlen]
        rw [this]
        exact List.take_left
    · have hold : (Builtin.firstCells i.size ll (.slice (some ⟨g, 0, none⟩) ll cap)).run Tryz.prog w.drew = .ok L.toArray w.drew := by
        have := hown.cells (g := g) rfl
        exact run_firstCells_some w.drew i.size ll ⟨g, 0, none⟩ ll cap L (by rw [hsz, hLlen]; omega) (by simpa using this)
      have hr := run_append_grow_src w 22 tx ty 5 i (.int .u8 0) ht hi hz (some ⟨g, 0, none⟩) ll cap L hold x m.length _ hs' (by omega) (by omega) (h48 cap (by omega))
      have hgr := grown cap (by omega) (Value.ownBlock (.slice (some ⟨g, 0, none⟩) ll cap))
      exact ⟨_, _, hr, hgr.1, hgr.2, .inr rfl⟩

theorem wpList_app2 {w : World} {ops : Array Oper} {rest : List Oper} {o : Oper} {a : Act} {Q : Exit → Act → World → Prop} (hgd : o.guard = none) (s x : Operand) (tx : TypeId)
    (ho : o.op = .call { callee := .builtin .append, args := #[s, x], argTypes := #[22, tx] }) (B : Nat) (v xv : Value) (l m : List Int) (hs : a.eval s = v) (hx : a.eval x = xv) (hown : Own B w v l) (hsrc : SrcB w tx xv m)
    (hlm : l.length + m.length ≤ 1000000) (hB : B ≤ w.heap.size)
    (h : ∀ v' w', Own B w' v' (l ++ m) → w.grownBy w' v.ownBlock → (v'.ownBlock = v.ownBlock ∨ v'.ownBlock = some w.heap.size) → wpList Tryz.prog ops Q rest (a.put o.dst v') w') : wpList Tryz.prog ops Q (o :: rest) a w :=
  wpList_plain hgd fun _ hK => by
    obtain ⟨v', w', hr, h2, h3, h4⟩ := run_app2 w B tx o.type v xv l m hown hsrc hlm hB
    unfold Oper.wp execOp
    simp only [ho, resolve, invoke, builtin, Sem.run_bind, Sem.run_pure, Result.andThen_ok, List.map_toArray, List.map_cons, List.map_nil, hs, hx, hr]
    exact hK _ _ (h v' w' h2 h3 h4)
theorem Own.sl {B : Nat} {w : World} {v : Value} {l : List Int} (h : Own B w v l) : ∃ a n c, v = .slice a n c := by
  obtain ⟨ao, c, e, _⟩ := h.rd
  exact ⟨_, _, _, e⟩
theorem Own.sto {B : Nat} {w : World} {v : Value} {l : List Int} (h : Own B w v l) {q : Nat} (hq : q < B) (o : Nat) (u : Value) : Own B (w.setCell ⟨q, o, none⟩ u) v l := by
  refine ⟨h.1, ?_⟩
  rcases h.2 with k | ⟨b, cap, cur, hv, hg, hh, r⟩
  · exact .inl k
  · exact .inr ⟨b, cap, cur, hv, hg, by rw [Below.heap_setCell _ _ _ _ (show b ≠ q by omega)]; exact hh, r⟩
/-- The writer lies in block g: what it has written is l, its text's slice is v, and sp says whether a word that comes now has a space ahead of it. -/
structure Wt (w : World) (g : Nat) (v : Sl) (l : List Int) (sp : Bool) : Prop where
  row : w.heap[g]? = some (.cells #[.slice v.1 v.2.1 v.2.2, .bool sp] 76 (0, 0))
  own : Own (g + 1) w (slV v) l
theorem Wt.lt {w : World} {g : Nat} {v : Sl} {l : List Int} {sp : Bool} (h : Wt w g v l sp) : g < w.heap.size := (Array.getElem?_eq_some_iff.1 h.row).1
theorem Wt.c0 {w : World} {g : Nat} {v : Sl} {l : List Int} {sp : Bool} (h : Wt w g v l sp) : w.cell? ⟨g, 0, none⟩ = some (.slice v.1 v.2.1 v.2.2) := by unfold World.cell?; rw [h.row]; rfl
theorem Wt.c1 {w : World} {g : Nat} {v : Sl} {l : List Int} {sp : Bool} (h : Wt w g v l sp) : w.cell? ⟨g, 1, none⟩ = some (.bool sp) := by unfold World.cell?; rw [h.row]; rfl
theorem Wt.f1 {w : World} {g : Nat} {v : Sl} {l : List Int} {sp : Bool} (h : Wt w g v l sp) : w.frozen? ⟨g, 1, none⟩ = false := by unfold World.frozen?; rw [h.row]; rfl
theorem Wt.later {w w' : World} {g : Nat} {v : Sl} {l : List Int} {sp : Bool} (h : Wt w g v l sp) (hb : Below w.heap.size w w') : Wt w' g v l sp := ⟨(hb.block g h.lt).trans h.row, h.own.later hb⟩
theorem Wt.blk {w : World} {g : Nat} {v : Sl} {l : List Int} {sp : Bool} (h : Wt w g v l sp) : ∀ b, (slV v).ownBlock = some b → g + 1 ≤ b ∧ b < w.heap.size := fun b e => World.ownsRow.lt h.own b e
/-- What lay below block g, and what the writer does not have, is as it was. -/
structure WUp (g : Nat) (v : Sl) (w w' : World) : Prop where
  os : w'.os = w.os
  tape : w'.tape = w.tape
  output : w'.output = w.output
  size : w.heap.size ≤ w'.heap.size
  block : ∀ k, k < w.heap.size → k ≠ g → some k ≠ (slV v).ownBlock → w'.heap[k]? = w.heap[k]?
theorem WUp.refl (g : Nat) (v : Sl) (w : World) : WUp g v w w := ⟨rfl, rfl, rfl, Nat.le_refl _, fun _ _ _ _ => rfl⟩
theorem WUp.of {g : Nat} {v : Sl} {w w' : World} (h : Below w.heap.size w w') : WUp g v w w' := ⟨h.os, h.tape, h.output, h.size, fun k hk _ _ => h.block k hk⟩
/-- The writer's own block may be another one behind it, but a new one. -/
def WKp (v v' : Sl) (n : Nat) : Prop := (slV v').ownBlock = (slV v).ownBlock ∨ ∃ b, (slV v').ownBlock = some b ∧ n ≤ b
theorem WUp.trans {g : Nat} {v v' : Sl} {a b c : World} (h : WUp g v a b) (k : WUp g v' b c) (hk : WKp v v' a.heap.size) : WUp g v a c :=
  ⟨k.os.trans h.os, k.tape.trans h.tape, k.output.trans h.output, Nat.le_trans h.size k.size, fun i hi hg hv => (k.block i (Nat.lt_of_lt_of_le hi h.size) hg (by
    rcases hk with e | ⟨q, e, hq⟩
    · rw [e]; exact hv
    · rw [e]; intro h; cases h; omega)).trans (h.block i hi hg hv)⟩
theorem WKp.refl (v : Sl) (n : Nat) : WKp v v n := .inl rfl
theorem WKp.trans {a b c : Sl} {n m : Nat} (h : WKp a b n) (k : WKp b c m) (hm : n ≤ m) : WKp a c n := by
  rcases k with e | ⟨q, e, hq⟩
  · rcases h with e' | ⟨q, e', hq⟩
    · exact .inl (e.trans e')
    · exact .inr ⟨q, e.trans e', hq⟩
  · exact .inr ⟨q, e, by omega⟩
theorem WUp.below {g : Nat} {v : Sl} {w w' : World} (h : WUp g v w w') (hg : g ≤ w.heap.size) (hv : ∀ b, (slV v).ownBlock = some b → g + 1 ≤ b) : Below g w w' :=
  ⟨h.os, h.tape, h.output, h.size, fun k hk => h.block k (by omega) (by omega) fun e => by have := hv k e.symm; omega⟩
/-- What a writing tells. -/
def TeW (g : Nat) (v : Sl) (w : World) (l' : List Int) (sp' : Bool) (e : Ending) (w' : World) : Prop := ∃ v', e = .returned (.tuple #[]) ∧ Wt w' g v' l' sp' ∧ WUp g v w w' ∧ WKp v v' w.heap.size

/-- Texts in a row. -/
structure WPs (w : World) (b o : Nat) (L : List ByteArray) : Prop where
  cell : ∀ i (h : i < L.length), w.cell? ⟨b, o + i, none⟩ = some (.string L[i])
def catN (L : List ByteArray) : List Int := (L.map nums).flatten
theorem catN_take {L : List ByteArray} {k : Nat} (h : k < L.length) : catN (L.take (k + 1)) = catN (L.take k) ++ nums L[k] := by
  rw [catN, catN, List.take_succ_eq_append_getElem h, List.map_append, List.flatten_append]
  simp

set_option maxRecDepth 100000 in
set_option maxHeartbeats 2000000 in
theorem put_any {g : Nat} {v : Sl} {l : List Int} {sp : Bool} {w : World} (h : Wt w g v l sp) {L : List ByteArray} {b : Nat} {n c : Nat} (hn : L.length = n) (hnc : n ≤ c) (hc : c ≤ 9223372036854775807) (hL : WPs w b 0 L) (hb : b < w.heap.size) (hbg : b ≠ g) (hbv : some b ≠ (slV v).ownBlock) (hz : l.length + (catN L).length ≤ 1000000) :
    Calls Tryz.prog 78 #[.pointer (some ⟨g, 0, none⟩), .slice (some ⟨b, 0, none⟩) n c] w (TeW g v w (l ++ catN L) sp) := by
  subst hn
  have HL : Hid (∀ w', WUp g v w w' → WPs w' b 0 L) := hid fun w' hu => ⟨fun i hi => (World.cell?_of_block (a := ⟨b, _, none⟩) (hu.block b hb hbg hbv)).trans (hL.cell i hi)⟩
  clear hL
  go_enter Tryz.func78, Tryz.ntmps78
  go_wp2
  go_loopw [8] (fun v8 wr => ∃ (k : Nat) (v2 : Sl), k ≤ L.length ∧ v8 = .int .i64 k ∧ Wt wr g v2 (l ++ catN (L.take k)) sp ∧ WUp g v w wr ∧ WKp v v2 w.heap.size) (fun i _ => L.length - (intOf i).toNat)
  case atStart => exact ⟨0, v, Nat.zero_le _, rfl, by simpa [catN] using h, WUp.refl _ _ _, WKp.refl _ _⟩
  case round =>
    obtain ⟨k, ⟨va, vn, vc⟩, hk, rfl, hW, hU, hK⟩ := hrel
    by_cases hlt : k < L.length
    · have x0 := (HL.out wr hU).cell k hlt
      rw [Nat.zero_add] at x0
      have c0 := hW.c0
      have hkI : (k : Int) < (L.length : Int) := by omega
      have hlen : (l ++ catN (L.take k)).length + (nums L[k]).length ≤ 1000000 := by
        have h1 : (catN L).length = (catN (L.take k)).length + (catN (L.drop k)).length := by
          rw [← List.length_append]
          congr 1
          rw [catN, catN, catN, ← List.flatten_append, ← List.map_append, List.take_append_drop]
        have h2 : (nums L[k]).length ≤ (catN (L.drop k)).length := by
          rw [List.drop_eq_getElem_cons hlt, catN, List.map_cons, List.flatten_cons, List.length_append]
          omega
        rw [List.length_append]
        omega
      have HT : Hid _ := hid (catN_take hlt)
      obtain ⟨s, hs⟩ : ∃ s, L[k] = s := ⟨_, rfl⟩
      rw [hs] at x0 hlen HT
      have hbs := hW.own
      have hwl := hW.lt
      have hblk := hW.blk
      clear hs
      go_wp2_with (first | (at_builtin; refine wpList_app2 rfl (.tmp 16) (.tmp 17) 9 rfl (g + 1) (.slice va vn vc) (.string s) _ _ rfl rfl hbs (SrcB.ofText wr s) hlen hwl ?_) | fail)
      intro v' w6 hO6 hg6 hown
      obtain ⟨a6, n6, c6, rfl⟩ := hO6.sl
      have hr6 : w6.heap[g]? = some (.cells #[.slice va vn vc, .bool sp] 76 (0, 0)) := (hg6.block g hwl fun e => by have := (hblk g e.symm).1; omega).trans hW.row
      have d0 : w6.cell? ⟨g, 0, none⟩ = some (.slice va vn vc) := by unfold World.cell?; rw [hr6]; rfl
      have f0 : w6.frozen? ⟨g, 0, none⟩ = false := by unfold World.frozen?; rw [hr6]; rfl
      have hW7 : Wt (w6.setCell ⟨g, 0, none⟩ (.slice a6 n6 c6)) g (a6, n6, c6) (l ++ catN (L.take (k + 1))) sp := ⟨by simp [World.setCell, Array.getElem?_modify, hr6], by
        have hl : l ++ catN (L.take (k + 1)) = (l ++ catN (L.take k)) ++ nums s := by rw [HT.out, List.append_assoc]
        rw [hl]
        have := hO6.sto (q := g) (Nat.lt_succ_self g) 0 (.slice a6 n6 c6)
        first | exact this | (rw [List.append_assoc]; exact this)⟩
      have hU6 : WUp g (va, vn, vc) wr (w6.setCell ⟨g, 0, none⟩ (.slice a6 n6 c6)) := ⟨hg6.os, hg6.tape, hg6.output, by simp [World.setCell]; exact hg6.size, fun k hk hg hv => (Below.heap_setCell _ _ _ _ hg).trans (hg6.block k hk hv)⟩
      have hU7 : WUp g v w (w6.setCell ⟨g, 0, none⟩ (.slice a6 n6 c6)) := hU.trans hU6 hK
      have hK7 : WKp v (a6, n6, c6) w.heap.size := hK.trans (m := wr.heap.size) (by
        rcases hown with e | e
        · exact .inl e
        · exact .inr ⟨_, e, Nat.le_refl _⟩) hU.size
      clear hO6 hg6 hown hr6 hU6 hU hK hW hbs HT x0 c0
      replace hW7 : Hid _ := hid hW7
      go_wp2
      go_roundw
      case rel => exact ⟨k + 1, (a6, n6, c6), hlt, by go_num, hW7.out, hU7, hK7⟩
      case measure => simp only [intOf]; omega
    · obtain rfl : k = L.length := by omega
      rw [List.take_length] at hW
      go_wp2
      exact bodyPost_end (results_none rfl _ _ _) rfl ⟨_, rfl, hW, hU, hK⟩

end Go.Proofs.YtnboooaockgoiaaGreatDoor
namespace Go.Proofs.YtnboooaockgoiaaGreatDoor
open Go.RowKit
set_option linter.unusedVariables false
set_option linter.unusedSimpArgs false

/-- A writer's state: what is written, and whether a word that comes now has a space ahead of it. -/
abbrev Ws := List Int × Bool
def spS (s : Ws) : Ws := (if s.2 = true then s.1 ++ [32] else s.1, true)
def puS (L : List ByteArray) (s : Ws) : Ws := (s.1 ++ catN L, s.2)
def woS (t : ByteArray) (s : Ws) : Ws := puS [t] (spS s)
def wosS (L : List ByteArray) (s : Ws) : Ws := L.foldl (fun s t => woS t s) s
def opS (s : Ws) : Ws := (s.1 ++ [40], false)
def clS (s : Ws) : Ws := (s.1 ++ [41], true)
/-- What a writing tells, by states. -/
def TeS2 (g : Nat) (v : Sl) (w : World) (s : Ws) (e : Ending) (w' : World) : Prop := TeW g v w s.1 s.2 e w'
theorem WPs.one (w : World) (t : ByteArray) : WPs (w.alloc (.cells #[.string t] 9)) w.heap.size 0 [t] := ⟨fun i hi => by
  have hi' : i < 1 := hi
  obtain rfl : i = 0 := by omega
  exact cell_new w _ _ _ 0⟩
theorem WPs.two (w : World) (t u : ByteArray) : WPs (w.alloc (.cells #[.string t, .string u] 9)) w.heap.size 0 [t, u] := ⟨fun i hi => by
  have hi' : i < 2 := hi
  match i, hi' with
  | 0, _ => exact cell_new w _ _ _ 0
  | 1, _ => exact cell_new w _ _ _ 1⟩
theorem WPs.three (w : World) (t u x : ByteArray) : WPs (w.alloc (.cells #[.string t, .string u, .string x] 9)) w.heap.size 0 [t, u, x] := ⟨fun i hi => by
  have hi' : i < 3 := hi
  match i, hi' with
  | 0, _ => exact cell_new w _ _ _ 0
  | 1, _ => exact cell_new w _ _ _ 1
  | 2, _ => exact cell_new w _ _ _ 2⟩
theorem WUp.box {g : Nat} {v : Sl} {w w' : World} {o : Obj} (h : WUp g v (w.alloc o) w') : WUp g v w w' :=
  ⟨h.os, h.tape, h.output, by have := h.size; simp at this; omega, fun k hk hg hv => (h.block k (by simp; omega) hg hv).trans ((bal (Below.refl _ w) o).block k hk)⟩
theorem WKp.box {v v' : Sl} {w : World} {o : Obj} (h : WKp v v' (w.alloc o).heap.size) : WKp v v' w.heap.size := by
  rcases h with h | ⟨b, e, hb⟩
  · exact .inl h
  · exact .inr ⟨b, e, by simp at hb; omega⟩
theorem TeW.box {g : Nat} {v : Sl} {w : World} {l : List Int} {sp : Bool} {o : Obj} {e : Ending} {w' : World} (h : TeW g v (w.alloc o) l sp e w') : TeW g v w l sp e w' := by
  obtain ⟨v', h1, h2, h3, h4⟩ := h
  exact ⟨v', h1, h2, h3.box, h4.box⟩
/-- put at a row of pieces that was just made. -/
theorem put1 {g : Nat} {v : Sl} {l : List Int} {sp : Bool} {w : World} (h : Wt w g v l sp) (t : ByteArray) (hz : l.length + (catN [t]).length ≤ 1000000) :
    Calls Tryz.prog 78 #[.pointer (some ⟨g, 0, none⟩), .slice (some ⟨w.heap.size, 0, none⟩) 1 1] (w.alloc (.cells #[.string t] 9)) (TeW g v w (l ++ catN [t]) sp) :=
  (put_any (h.later (bal (Below.refl _ w) _)) (n := 1) (c := 1) rfl (Nat.le_refl _) (by omega) (WPs.one w t) (by simp) (by have := h.lt; omega) (fun e => by have := (h.blk _ e.symm).2; omega) hz).mono fun _ _ h => h.box
theorem put2 {g : Nat} {v : Sl} {l : List Int} {sp : Bool} {w : World} (h : Wt w g v l sp) (t u : ByteArray) (hz : l.length + (catN [t, u]).length ≤ 1000000) :
    Calls Tryz.prog 78 #[.pointer (some ⟨g, 0, none⟩), .slice (some ⟨w.heap.size, 0, none⟩) 2 2] (w.alloc (.cells #[.string t, .string u] 9)) (TeW g v w (l ++ catN [t, u]) sp) :=
  (put_any (h.later (bal (Below.refl _ w) _)) (n := 2) (c := 2) rfl (Nat.le_refl _) (by omega) (WPs.two w t u) (by simp) (by have := h.lt; omega) (fun e => by have := (h.blk _ e.symm).2; omega) hz).mono fun _ _ h => h.box
theorem put3 {g : Nat} {v : Sl} {l : List Int} {sp : Bool} {w : World} (h : Wt w g v l sp) (t u x : ByteArray) (hz : l.length + (catN [t, u, x]).length ≤ 1000000) :
    Calls Tryz.prog 78 #[.pointer (some ⟨g, 0, none⟩), .slice (some ⟨w.heap.size, 0, none⟩) 3 3] (w.alloc (.cells #[.string t, .string u, .string x] 9)) (TeW g v w (l ++ catN [t, u, x]) sp) :=
  (put_any (h.later (bal (Below.refl _ w) _)) (n := 3) (c := 3) rfl (Nat.le_refl _) (by omega) (WPs.three w t u x) (by simp) (by have := h.lt; omega) (fun e => by have := (h.blk _ e.symm).2; omega) hz).mono fun _ _ h => h.box
theorem Wt.sp {w : World} {g : Nat} {v : Sl} {l : List Int} {sp : Bool} (h : Wt w g v l sp) (b : Bool) : Wt (w.setCell ⟨g, 1, none⟩ (.bool b)) g v l b := ⟨by simp [World.setCell, Array.getElem?_modify, h.row], h.own.sto (q := g) (Nat.lt_succ_self g) _ _⟩
theorem WUp.sp (g : Nat) (v : Sl) (w : World) (o : Nat) (u : Value) : WUp g v w (w.setCell ⟨g, o, none⟩ u) := ⟨rfl, rfl, rfl, by simp [World.setCell], fun k _ hg _ => Below.heap_setCell _ _ _ _ hg⟩

set_option maxRecDepth 100000 in
theorem wSpace_any {g : Nat} {v : Sl} {s : Ws} {w : World} (h : Wt w g v s.1 s.2) (hz : s.1.length ≤ 900000) : Calls Tryz.prog 44 #[.pointer (some ⟨g, 0, none⟩)] w (TeS2 g v w (spS s)) := by
  obtain ⟨l, sp⟩ := s
  have c1 := h.c1
  simp only at c1 h hz
  cases sp with
  | false =>
    have f1 := h.f1
    have hW := h.sp true
    go_enter Tryz.func44, Tryz.ntmps44
    go_wp2
    exact bodyPost_end (results_none rfl _ _ _) rfl ⟨v, rfl, hW, WUp.sp _ _ _ _ _, WKp.refl _ _⟩
  | true =>
    have H : Hid _ := hid (put1 h ⟨#[32]⟩ (by have : (catN [⟨#[32]⟩]).length = 1 := rfl; omega))
    go_enter Tryz.func44, Tryz.ntmps44
    go_wp2_with fail
    refine Calls.mono H.out ?_
    rintro e w1 ⟨v1, rfl, hW, hU, hK⟩
    have f1 := hW.f1
    have d1 := hW.c1
    have hW2 := hW.sp true
    have hU2 := hU.trans (WUp.sp g v1 w1 1 (.bool true)) hK
    clear H h c1
    go_wp2
    exact bodyPost_end (results_none rfl _ _ _) rfl ⟨v1, rfl, hW2, hU2, hK⟩
set_option maxRecDepth 100000 in
theorem wWord_any {g : Nat} {v : Sl} {s : Ws} {w : World} (h : Wt w g v s.1 s.2) (t : ByteArray) (hz : s.1.length + t.size ≤ 900000) : Calls Tryz.prog 61 #[.pointer (some ⟨g, 0, none⟩), .string t] w (TeS2 g v w (woS t s)) := by
  have H : Hid _ := hid (wSpace_any h (by omega))
  have hl : (spS s).1.length ≤ s.1.length + 1 := by unfold spS; split <;> simp
  have hc : (catN [t]).length = t.size := by simp [catN, nums_len]
  go_enter Tryz.func61, Tryz.ntmps61
  go_wp2_with fail
  refine Calls.mono H.out ?_
  rintro e w1 ⟨v1, rfl, hW, hU, hK⟩
  have H2 : Hid _ := hid (put1 hW t (by omega))
  clear H h
  go_wp2_with fail
  refine Calls.mono H2.out ?_
  rintro e w2 ⟨v2, rfl, hW2, hU2, hK2⟩
  have hU3 := hU.trans hU2 hK
  have hK3 := hK.trans hK2 hU.size
  clear H2 hU2 hK2 hW
  go_wp2
  exact bodyPost_end (results_none rfl _ _ _) rfl ⟨v2, rfl, hW2, hU3, hK3⟩

set_option maxRecDepth 100000 in
theorem wOpen_any {g : Nat} {v : Sl} {s : Ws} {w : World} (h : Wt w g v s.1 s.2) (hz : s.1.length ≤ 900000) : Calls Tryz.prog 89 #[.pointer (some ⟨g, 0, none⟩)] w (TeS2 g v w (opS s)) := by
  have H : Hid _ := hid (put1 h ⟨#[40]⟩ (by have : (catN [⟨#[40]⟩]).length = 1 := rfl; omega))
  go_enter Tryz.func89, Tryz.ntmps89
  go_wp2_with fail
  refine Calls.mono H.out ?_
  rintro e w1 ⟨v1, rfl, hW, hU, hK⟩
  have f1 := hW.f1
  have d1 := hW.c1
  have hW2 := hW.sp false
  have hU2 := hU.trans (WUp.sp g v1 w1 1 (.bool false)) hK
  clear H h
  go_wp2
  exact bodyPost_end (results_none rfl _ _ _) rfl ⟨v1, rfl, hW2, hU2, hK⟩
set_option maxRecDepth 100000 in
theorem wClose_any {g : Nat} {v : Sl} {s : Ws} {w : World} (h : Wt w g v s.1 s.2) (hz : s.1.length ≤ 900000) : Calls Tryz.prog 91 #[.pointer (some ⟨g, 0, none⟩)] w (TeS2 g v w (clS s)) := by
  have H : Hid _ := hid (put1 h ⟨#[41]⟩ (by have : (catN [⟨#[41]⟩]).length = 1 := rfl; omega))
  go_enter Tryz.func91, Tryz.ntmps91
  go_wp2_with fail
  refine Calls.mono H.out ?_
  rintro e w1 ⟨v1, rfl, hW, hU, hK⟩
  have f1 := hW.f1
  have d1 := hW.c1
  have hW2 := hW.sp true
  have hU2 := hU.trans (WUp.sp g v1 w1 1 (.bool true)) hK
  clear H h
  go_wp2
  exact bodyPost_end (results_none rfl _ _ _) rfl ⟨v1, rfl, hW2, hU2, hK⟩
/-- How many bytes words may come to. -/
def szL (L : List ByteArray) : Nat := (L.map fun t => t.size + 1).sum
theorem woS_len (t : ByteArray) (s : Ws) : (woS t s).1.length ≤ s.1.length + t.size + 1 := by
  have hl : (spS s).1.length ≤ s.1.length + 1 := by unfold spS; split <;> simp
  have hc : (catN [t]).length = t.size := by simp [catN, nums_len]
  show ((spS s).1 ++ catN [t]).length ≤ _
  rw [List.length_append]
  omega
theorem wosS_take {L : List ByteArray} {k : Nat} (h : k < L.length) (s : Ws) : wosS (L.take (k + 1)) s = woS L[k] (wosS (L.take k) s) := by
  rw [wosS, wosS, List.take_succ_eq_append_getElem h, List.foldl_append]
  rfl
theorem wosS_len (L : List ByteArray) : ∀ s : Ws, (wosS L s).1.length ≤ s.1.length + szL L := by
  induction L with
  | nil => intro s; exact Nat.le_add_right _ _
  | cons t L ih =>
    intro s
    have := ih (woS t s)
    have h2 := woS_len t s
    show (wosS L (woS t s)).1.length ≤ s.1.length + ((t.size + 1) + szL L)
    omega
theorem szL_take {L : List ByteArray} {k : Nat} (h : k < L.length) : szL (L.take k) + (L[k].size + 1) ≤ szL L := by
  have e : szL L = szL (L.take k) + szL (L.drop k) := by
    rw [szL, szL, szL, ← List.sum_append, ← List.map_append, List.take_append_drop]
  rw [e, List.drop_eq_getElem_cons h]
  show _ ≤ _ + ((L[k].size + 1) + szL (L.drop (k + 1)))
  omega
set_option maxRecDepth 100000 in
set_option maxHeartbeats 2000000 in
theorem wWords_any {g : Nat} {v : Sl} {s : Ws} {w : World} (h : Wt w g v s.1 s.2) {L : List ByteArray} {b : Nat} {n c : Nat} (hn : L.length = n) (hnc : n ≤ c) (hc : c ≤ 9223372036854775807) (hL : WPs w b 0 L) (hb : b < w.heap.size) (hbg : b ≠ g) (hbv : some b ≠ (slV v).ownBlock) (hz : s.1.length + szL L ≤ 800000) :
    Calls Tryz.prog 57 #[.pointer (some ⟨g, 0, none⟩), .slice (some ⟨b, 0, none⟩) n c] w (TeS2 g v w (wosS L s)) := by
  subst hn
  have HL : Hid (∀ w', WUp g v w w' → WPs w' b 0 L) := hid fun w' hu => ⟨fun i hi => (World.cell?_of_block (a := ⟨b, _, none⟩) (hu.block b hb hbg hbv)).trans (hL.cell i hi)⟩
  clear hL
  go_enter Tryz.func57, Tryz.ntmps57
  go_wp2
  go_loopw [8] (fun v8 wr => ∃ (k : Nat) (v2 : Sl), k ≤ L.length ∧ v8 = .int .i64 k ∧ Wt wr g v2 (wosS (L.take k) s).1 (wosS (L.take k) s).2 ∧ WUp g v w wr ∧ WKp v v2 w.heap.size) (fun i _ => L.length - (intOf i).toNat)
  case atStart => exact ⟨0, v, Nat.zero_le _, rfl, h, WUp.refl _ _ _, WKp.refl _ _⟩
  case round =>
    obtain ⟨k, v2, hk, rfl, hW, hU, hK⟩ := hrel
    by_cases hlt : k < L.length
    · have x0 := (HL.out wr hU).cell k hlt
      rw [Nat.zero_add] at x0
      have hkI : (k : Int) < (L.length : Int) := by omega
      have h1 := wosS_len (L.take k) s
      have h2 := szL_take hlt
      have H := wWord_any hW L[k] (by omega)
      rw [← wosS_take hlt s] at H
      generalize L[k] = t at *
      replace H : Hid _ := hid H
      clear hW h1 h2
      go_wp2_with fail
      refine Calls.mono H.out ?_
      rintro e w1 ⟨v1, rfl, hW1, hU1, hK1⟩
      have hU2 := hU.trans hU1 hK
      have hK2 := hK.trans hK1 hU.size
      clear H hU1 hK1
      replace hW1 : Hid _ := hid hW1
      go_wp2
      go_roundw
      case rel => exact ⟨k + 1, v1, hlt, by go_num, hW1.out, hU2, hK2⟩
      case measure => simp only [intOf]; omega
    · obtain rfl : k = L.length := by omega
      rw [List.take_length] at hW
      go_wp2
      exact bodyPost_end (results_none rfl _ _ _) rfl ⟨_, rfl, hW, hU, hK⟩

end Go.Proofs.YtnboooaockgoiaaGreatDoor
