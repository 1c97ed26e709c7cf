import Derived.Test.YtmfoenhbldacfaaQag
import Derived.Deep.AppendSrc
/- One law for what this seat appends to bytes of its own: a slice of bytes that may be read (nil too), or a text's bytes. -/
namespace Go.Proofs.Ytmfoenhbldacfaa
open Go.RowKit
set_option linter.unusedVariables false

/-- The value v is a slice of bytes of the call's own (its block from B on), and reads as l. -/
def Own (B : Nat) (w : World) (v : Value) (l : List Int) : Prop := w.ownsRow B 5 1 v l.length (l.map (Value.int .u8))
/-- What is appended reads as l. -/
def SrcB (w : World) (tx : TypeId) (x : Value) (l : List Int) : Prop := Src Try.prog 1 tx x l.length (l.map (Value.int .u8)) w

/-- What is not nil stays so. -/
def NN (v v' : Value) : Prop := v ≠ .slice none 0 0 → v' ≠ .slice none 0 0
theorem NN.refl (v : Value) : NN v v := fun h => h
theorem NN.trans {a b c : Value} (h : NN a b) (k : NN b c) : NN a c := fun x => k (h x)

theorem Own.nil (B : Nat) (w : World) : Own B w (.slice none 0 0) [] := World.ownsRow_nil w B 5 1
theorem Own.rd {B : Nat} {w : World} {v : Value} {l : List Int} (h : Own B w v l) : ∃ ao c, v = .slice ao l.length c ∧ Rd .u8 w ao l.length c l := Rd.of_owns h
theorem Own.alloc {B : Nat} {w : World} {v : Value} {l : List Int} (h : Own B w v l) (o : Obj) : Own B (w.alloc o) v l := World.ownsRow.alloc h o
theorem Own.drew {B : Nat} {w : World} {v : Value} {l : List Int} (h : Own B w v l) : Own B w.drew v l := h
theorem Own.base {B B' : Nat} {w : World} {v : Value} {l : List Int} (h : Own B w v l) (hb : B' ≤ B) : Own B' w v l := owns_base h hb
theorem Own.later {B : Nat} {w w' : World} {v : Value} {l : List Int} (h : Own B w v l) (hb : Below w.heap.size w w') : Own B w' v l := by
  refine ⟨h.1, ?_⟩
  rcases h.2 with k | ⟨g, cap, cur, hv, hg, hh, r⟩
  · exact .inl k
  · exact .inr ⟨g, cap, cur, hv, hg, by rw [hb.block g (Array.getElem?_eq_some_iff.1 hh).1]; exact hh, r⟩

theorem SrcB.ofRd {w : World} {ao : Option Addr} {n c : Nat} {l : List Int} (h : Rd .u8 w ao n c l) : SrcB w 31 (.slice ao n c) l := by
  have hl := h.len
  rcases ao with _ | ad
  · obtain ⟨rfl, rfl, rfl⟩ := h.none_nil
    exact Src.ofNil w Try.underlying31 0
  · subst hl
    exact Src.ofSlice w Try.underlying31 ad _ c _ (by simp) h.news (ints_one _ _)
theorem SrcB.ofText (w : World) (s : ByteArray) : SrcB w 9 (.string s) (nums s) := by
  have h := Src.ofString (P := Try.prog) w (tx := 9) Try.underlying9 s
  have e : byteCells s = (nums s).map (Value.int .u8) := by simp [byteCells, nums]
  rw [e, ← nums_len s] at h
  exact h
theorem SrcB.one (w : World) (x : Int) : SrcB (w.alloc (.cells #[.int .u8 x] 5)) 31 (.slice (some ⟨w.heap.size, 0, none⟩) 1 1) [x] :=
  Src.ofSlice (w.alloc (.cells #[.int .u8 x] 5)) Try.underlying31 _ 1 1 [.int .u8 x] rfl (one_new0 w (.int .u8 x) 5) (ints_one .u8 [x])
/-- The same behind draws. -/
theorem SrcB.at {w : World} {tx : TypeId} {x : Value} {l : List Int} {g : Nat} {y : Int} (h : w.cell? ⟨g, 0, none⟩ = some (.int .u8 y)) : SrcB w 31 (.slice (some ⟨g, 0, none⟩) 1 1) [y] :=
  Src.ofSlice w Try.underlying31 _ 1 1 [.int .u8 y] rfl (one_of h) (ints_one .u8 [y])

theorem run_app (w : World) (B : Nat) (tx ty : TypeId) (v x : Value) (l m : List Int) (hown : Own B w v l) (hs : SrcB w tx x m) (hlm : l.length + m.length ≤ 100000) (hB : B ≤ w.heap.size) :
    ∃ v' w', (Builtin.append_ #[31, tx] ty #[v, x]).run Try.prog w = .ok v' w' ∧ Own B w' v' (l ++ m) ∧ w.grownBy w' v.ownBlock ∧ (v ≠ .slice none 0 0 → v' ≠ .slice none 0 0) := by
  obtain ⟨i, hi, hz, hsz, hby⟩ := info_parts Try.info5
  have ht := Try.underlying31
  obtain ⟨ll, L, hLl⟩ : ∃ n : Nat, ∃ L : List Value, l.length = n ∧ l.map (Value.int .u8) = L := ⟨_, _, rfl, rfl⟩
  obtain ⟨hL1, hL2⟩ := hLl
  unfold Own at hown ⊢
  unfold SrcB at hs
  have hlen : (l ++ m).map (Value.int .u8) = L ++ m.map (Value.int .u8) := by rw [← hL2, List.map_append]
  have hll : (l ++ m).length = ll + m.length := by rw [← hL1, List.length_append]
  rw [hlen, hll]
  rw [hL1, hL2] at hown
  have hLlen : L.length = ll := by rw [← hL2, ← hL1, List.length_map]
  have grown : ∀ (old : Nat), old < ll + m.length → ∀ (row : Option Nat),
      (w.drew.alloc (.cells ((L ++ m.map (Value.int .u8)).toArray ++ Builtin.zeroCells (Value.int .u8 0).cells (grownCap w (ll + m.length) old 5 - (ll + m.length))) 5)).ownsRow B 5 1
        (.slice (some ⟨w.heap.size, 0, none⟩) (ll + m.length) (grownCap w (ll + m.length) old 5)) (ll + m.length) (L ++ m.map (Value.int .u8)) ∧
      w.grownBy (w.drew.alloc (.cells ((L ++ m.map (Value.int .u8)).toArray ++ Builtin.zeroCells (Value.int .u8 0).cells (grownCap w (ll + m.length) old 5 - (ll + m.length))) 5)) row := by
    intro old ho row
    have hge := grownCap_ge w (ll + m.length) old 5
    have hcm : grownCap w (ll + m.length) old 5 ≤ maxLen := grownCap_le_maxLen w (ll + m.length) old 5 (by unfold maxLen; omega)
    refine ⟨⟨by simp [hLlen], .inr ⟨w.heap.size, _, _, rfl, hB, heap_alloc_new w.drew _, hge, hcm, ?_, ?_⟩⟩, ⟨rfl, rfl, rfl, by simp, fun k hk _ => Below.heap_alloc w.drew _ k hk⟩⟩
    · simp only [Array.size_append, List.size_toArray, size_zeroCells, List.length_append, List.length_map, hLlen]
      simp [Value.cells]
      omega
    · simp only [Array.toList_append]
      have : (ll + m.length) * 1 = (L ++ m.map (Value.int .u8)).length := by simp [hLlen]
      rw [this]
      exact List.take_left
  have h48 : ∀ cap, cap < ll + m.length → Builtin.nextslicecap (ll + m.length) cap * i.bytes ≤ 281474976710656 := fun cap hc => growslice_fits hc (by rw [hby]; omega)
  have hs' : Src Try.prog i.size tx x m.length (m.map (Value.int .u8)) w := by rw [hsz]; exact hs
  rcases hown.2 with ⟨rfl, h0⟩ | ⟨g, cap, cur, rfl, hbg, hg, hnc, hcm, hcs, htake⟩
  · subst h0
    obtain rfl : L = [] := List.eq_nil_of_length_eq_zero hLlen
    by_cases hm : m = []
    · subst hm
      refine ⟨.slice none 0 0, w, ?_, World.ownsRow_nil w B 5 1, ⟨rfl, rfl, rfl, Nat.le_refl _, fun _ _ _ => rfl⟩, fun h => h⟩
      have hc : (Builtin.firstCells i.size 0 x).run Try.prog w = .ok #[] w := hs'.cells
      have hl0 : ∀ w' : World, (Builtin.lenOf x).run Try.prog w' = .ok 0 w' := hs'.len
      rcases hs'.kind with ⟨e', hk⟩ | hk <;> simp [Builtin.append_, run_underlying ht, run_underlying hk, sizeOf, typeInfo, hi, hl0, hc]
    · have hmp : 0 < m.length := List.length_pos_iff.2 hm
      have hr := run_append_grow_src w 31 tx ty 5 i (.int .u8 0) ht hi hz none 0 0 [] (by simp [Builtin.firstCells]) x m.length _ hs' (by omega) (by omega) (h48 0 (by omega))
      have hgr := grown 0 (by omega) (Value.ownBlock (.slice none 0 0))
      exact ⟨_, _, hr, hgr.1, hgr.2, fun _ => by simp⟩
  · by_cases hroom : ll + m.length ≤ cap
    · have hfit : ll * i.size + (m.map (Value.int .u8)).length ≤ cur.size := by rw [hsz, List.length_map]; omega
      have hst := run_storeCells_at Try.prog g (ll * i.size) 5 (m.map (Value.int .u8)) 0 cur w hg (by simpa using hfit) (ints_one _ _)
      simp only [Nat.add_zero] at hst
      have hr : (Builtin.append_ #[31, tx] ty #[.slice (some ⟨g, 0, none⟩) ll cap, x]).run Try.prog w = .ok (.slice (some ⟨g, 0, none⟩) (ll + m.length) cap) (w.setRow g (cur.toList.take (ll * i.size) ++ m.map (Value.int .u8) ++ cur.toList.drop (ll * i.size + (m.map (Value.int .u8)).length)).toArray) := by
        rcases hs'.kind with ⟨e', hk⟩ | hk <;> simp [Builtin.append_, run_underlying ht, run_underlying hk, sizeOf, typeInfo, hi, hs'.len, hroom, hs'.cells, Addr.add_lit, hst]
      rw [hsz] at hr hfit
      refine ⟨_, _, hr, ⟨by simp [hLlen], .inr ⟨g, cap, _, rfl, hbg, setRow_heap w g cur _ 5 _ hg, hroom, hcm, ?_, ?_⟩⟩, ⟨rfl, rfl, rfl, by simp, fun k _ hk => setRow_other w g k _ (fun e => hk (by simp [Value.ownBlock, e]))⟩, by simp⟩
      · simp only [List.size_toArray, List.length_append, List.length_take, List.length_drop, Array.length_toList]
        omega
      · rw [htake]
        have : (ll + m.length) * 1 = (L ++ m.map (Value.int .u8)).length := by simp [hLlen]
        rw [this]
        exact List.take_left
    · have hold : (Builtin.firstCells i.size ll (.slice (some ⟨g, 0, none⟩) ll cap)).run Try.prog w.drew = .ok L.toArray w.drew := by
        have := hown.cells (g := g) rfl
        exact run_firstCells_some w.drew i.size ll ⟨g, 0, none⟩ ll cap L (by rw [hsz, hLlen]; omega) (by simpa using this)
      have hr := run_append_grow_src w 31 tx ty 5 i (.int .u8 0) ht hi hz (some ⟨g, 0, none⟩) ll cap L hold x m.length _ hs' (by omega) (by omega) (h48 cap (by omega))
      have hgr := grown cap (by omega) (Value.ownBlock (.slice (some ⟨g, 0, none⟩) ll cap))
      exact ⟨_, _, hr, hgr.1, hgr.2, fun _ => by simp⟩

theorem Own.below {B : Nat} {w w' : World} {v : Value} {l : List Int} (h : Own B w v l) (hB : B ≤ w.heap.size) (hg : w.grownBy w' v.ownBlock) : Below B w w' :=
  below_grown (Below.refl B w) hB h (Nat.le_refl _) hg

theorem wpList_app {w : World} {ops : Array Oper} {rest : List Oper} {o : Oper} {a : Act} {Q : Exit → Act → World → Prop} (hgd : o.guard = none) (s x : Operand) (tx : TypeId)
    (ho : o.op = .call { callee := .builtin .append, args := #[s, x], argTypes := #[31, tx] }) (B : Nat) (v xv : Value) (l m : List Int) (hs : a.eval s = v) (hx : a.eval x = xv) (hown : Own B w v l) (hsrc : SrcB w tx xv m)
    (hlm : l.length + m.length ≤ 100000) (hB : B ≤ w.heap.size)
    (h : ∀ v' w', Own B w' v' (l ++ m) → Below B w w' → NN v v' → wpList Try.prog ops Q rest (a.put o.dst v') w') : wpList Try.prog ops Q (o :: rest) a w :=
  wpList_plain hgd fun _ hK => by
    obtain ⟨v', w', hr, h2, h3, h4⟩ := run_app w B tx o.type v xv l m hown hsrc hlm hB
    unfold Oper.wp execOp
    simp only [ho, resolve, invoke, builtin, Sem.run_bind, Sem.run_pure, Result.andThen_ok, List.map_toArray, List.map_cons, List.map_nil, hs, hx, hr]
    exact hK _ _ (h v' w' h2 (hown.below hB h3) h4)

theorem step_app {ops : Array Oper} {o : Oper} {a : Act} {w : World} {K : Act → World → Prop} {Q : Exit → Act → World → Prop} {E : Prop}
    (hgd : o.guard = none) (s x : Operand) (tx : TypeId) (ho : o.op = Op.call { callee := Callee.builtin Builtin.append, args := #[s, x], argTypes := #[31, tx] })
    (B : Nat) (v xv : Value) (l m : List Int) (hs : a.eval s = v) (hx : a.eval x = xv) (hown : Own B w v l) (hsrc : SrcB w tx xv m) (hlm : l.length + m.length ≤ 100000) (hB : B ≤ w.heap.size)
    (h : ∀ v' w', Own B w' v' (l ++ m) → w.grownBy w' v.ownBlock → NN v v' → K (a.put o.dst v') w') :
    if Region.wanted o (yielded ops a.tmps) = true then Oper.wp Try.prog o a w K Q else E := by
  have hw : Region.wanted o (yielded ops a.tmps) = true := by simp [Region.wanted, hgd]
  rw [if_pos hw]
  obtain ⟨v', w', hr, h2, h3, h4⟩ := run_app w B tx o.type v xv l m hown hsrc hlm hB
  unfold Oper.wp
  simp [execOp, ho, resolve, invoke, builtin, hs, hx, hr, Result.andThen]
  exact h v' w' h2 h3 h4

end Go.Proofs.Ytmfoenhbldacfaa
