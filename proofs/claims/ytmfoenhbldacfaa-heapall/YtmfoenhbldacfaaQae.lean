import Derived.Test.YtmfoenhbldacfaaQad
import Derived.Deep.RegionHeld3
import Derived.Deep.WholeRow
/- What turns a page: a record's cells, wiped; records pushed together; a record laid. -/
namespace Go.Proofs.Ytmfoenhbldacfaa
open Go.RowKit
set_option linter.unusedVariables false

theorem Pg.row' {w : World} {g : Nat} {B : List Int} (h : Pg w g B) (o : Nat) (r : List Int) (cs : List Value)
    (e : cs = ((B.map (Value.int .u8)).toArray.toList.take o ++ r.map (Value.int .u8) ++ (B.map (Value.int .u8)).toArray.toList.drop (o + (r.map (Value.int .u8)).length))) : Pg (w.setRow g cs.toArray) g (spl B o r) := by
  refine ⟨?_⟩
  rw [setRow_heap w g _ _ _ _ h.row]
  subst e
  simp [spl]

theorem run_clear_pg {w : World} {g : Nat} {B : List Int} (h : Pg w g B) (ty : TypeId) (o n c : Nat) (hn : 0 < n) (hfit : o + n ≤ B.length) :
    ∃ w', (Builtin.clear_ #[31] ty #[.slice (some ⟨g, o, none⟩) n c]).run Try.prog w = .ok (.tuple #[]) w' ∧ Pg w' g (spl B o (List.replicate n 0)) ∧ Rest g w w' := by
  have hv : ∀ w, (zeroValue 5).run Try.prog w = .ok (.int .u8 0) w := fun _ => by kernel_rfl
  have hzc : (Builtin.zeroCells (Value.int .u8 0).cells n).toList = (List.replicate n (0 : Int)).map (Value.int .u8) := by
    rw [show (Value.int .u8 0).cells = #[Value.int .u8 0] from rfl]
    simp [Builtin.zeroCells]
    apply List.ext_getElem
    · simp
    · intro i h1 h2
      simp [Nat.mod_one]
  have hst := run_storeCells_at Try.prog g o 69 ((List.replicate n (0 : Int)).map (Value.int .u8)) 0 _ w h.row (by simpa using hfit) (ints_one _ _)
  simp only [Nat.add_zero] at hst
  obtain ⟨m, rfl⟩ : ∃ m, n = m + 1 := ⟨n - 1, by omega⟩
  refine ⟨_, ?_, h.row' o (List.replicate (m + 1) 0) _ rfl, Rest.row _ _ _⟩
  obtain ⟨W, hW⟩ : ∃ W : World, w.setRow g ((B.map (Value.int .u8)).toArray.toList.take o ++ (List.replicate (m + 1) (0 : Int)).map (Value.int .u8) ++ (B.map (Value.int .u8)).toArray.toList.drop (o + ((List.replicate (m + 1) (0 : Int)).map (Value.int .u8)).length)).toArray = W := ⟨_, rfl⟩
  rw [hW] at hst ⊢
  simp only [List.map_replicate] at hst hzc
  simp [Builtin.clear_, run_underlying Try.underlying31, hv, hzc, hst]

theorem run_copy_pg {w : World} {g : Nat} {B r : List Int} (h : Pg w g B) (ty : TypeId) (o dn dc sc : Nat) {ad : Addr} {n : Nat} (hr : Rd .u8 w (some ad) n sc r) (hn : n ≤ dn) (hfit : o + n ≤ B.length) :
    ∃ w', (Builtin.copy_ #[31, 31] ty #[.slice (some ⟨g, o, none⟩) dn dc, .slice (some ad) n sc]).run Try.prog w = .ok (.int .i64 (n : Int)) w' ∧ Pg w' g (spl B o r) ∧ Rest g w w' := by
  have hl := hr.len
  subst hl
  have hrun := run_copy_row Try.prog w 31 31 ty 5 g o dn dc ad r.length sc _ 69 (r.map (Value.int .u8)) Try.underlying31 (by kernel_rfl) h.row (by rw [List.length_map]; show _ = min _ _; omega) hr.news (by simpa using hfit) (ints_one _ _)
  rw [List.length_map] at hrun
  refine ⟨_, hrun, ?_, Rest.row _ _ _⟩
  have := h.row' o r _ rfl
  simpa using this

theorem wpList_clear {w : World} {ops : Array Oper} {rest : List Oper} {o : Oper} {a : Act} {Q : Exit → Act → World → Prop} (hgd : o.guard = none) (x : Operand)
    (ho : o.op = .call { callee := .builtin .clear, args := #[x], argTypes := #[31] }) {g : Nat} {B : List Int} (hP : Pg w g B) (i n c : Nat) (hx : a.eval x = .slice (some ⟨g, i, none⟩) n c) (hn : 0 < n) (hfit : i + n ≤ B.length)
    (h : ∀ w', Pg w' g (spl B i (List.replicate n 0)) → Rest g w w' → wpList Try.prog ops Q rest (a.put o.dst (.tuple #[])) w') : wpList Try.prog ops Q (o :: rest) a w :=
  wpList_plain hgd fun _ hK => by
    obtain ⟨w', hr, h1, h2⟩ := run_clear_pg hP o.type i n c hn hfit
    unfold Oper.wp execOp
    simp only [ho, resolve, invoke, builtin, Sem.run_bind, Sem.run_pure, Result.andThen_ok, List.map_toArray, List.map_cons, List.map_nil, hx, hr]
    exact hK _ _ (h w' h1 h2)

theorem step_clear {ops : Array Oper} {o : Oper} {a : Act} {w : World} {K : Act → World → Prop} {Q : Exit → Act → World → Prop} {E : Prop}
    (hgd : o.guard = none) (x : Operand) (ho : o.op = .call { callee := .builtin .clear, args := #[x], argTypes := #[31] }) {g : Nat} {B : List Int} (hP : Pg w g B) (i n c : Nat) (hx : a.eval x = .slice (some ⟨g, i, none⟩) n c) (hn : 0 < n) (hfit : i + n ≤ B.length)
    (h : ∀ w', Pg w' g (spl B i (List.replicate n 0)) → Rest g w w' → K (a.put o.dst (.tuple #[])) w') :
    if Region.wanted o (yielded ops a.tmps) = true then Oper.wp Try.prog o a w K Q else E := by
  have hw : Region.wanted o (yielded ops a.tmps) = true := by simp [Region.wanted, hgd]
  rw [if_pos hw]
  obtain ⟨w', hr, h1, h2⟩ := run_clear_pg hP o.type i n c hn hfit
  unfold Oper.wp
  simp [execOp, ho, resolve, invoke, builtin, hx, hr, Result.andThen]
  exact h w' h1 h2

theorem wpList_copy {w : World} {ops : Array Oper} {rest : List Oper} {o : Oper} {a : Act} {Q : Exit → Act → World → Prop} (hgd : o.guard = none) (d x : Operand)
    (ho : o.op = .call { callee := .builtin .copy, args := #[d, x], argTypes := #[31, 31] }) {g : Nat} {B r : List Int} (hP : Pg w g B) (i dn dc sc n : Nat) (ad : Addr) (hd : a.eval d = .slice (some ⟨g, i, none⟩) dn dc) (hx : a.eval x = .slice (some ad) n sc)
    (hr : Rd .u8 w (some ad) n sc r) (hn : n ≤ dn) (hfit : i + n ≤ B.length)
    (h : ∀ w', Pg w' g (spl B i r) → Rest g w w' → wpList Try.prog ops Q rest (a.put o.dst (.int .i64 (n : Int))) w') : wpList Try.prog ops Q (o :: rest) a w :=
  wpList_plain hgd fun _ hK => by
    obtain ⟨w', hr, h1, h2⟩ := run_copy_pg hP o.type i dn dc sc hr hn hfit
    unfold Oper.wp execOp
    simp only [ho, resolve, invoke, builtin, Sem.run_bind, Sem.run_pure, Result.andThen_ok, List.map_toArray, List.map_cons, List.map_nil, hd, hx, hr]
    exact hK _ _ (h w' h1 h2)

/-- A cut of a page's bytes. -/
theorem cut_any (g o m : Nat) (ho : o < 256) (hm : o + m ≤ 256) (w' : World) :
    (Instr.sliceAt 67 (.pointer (some ⟨g, 0, none⟩)) (some (.int .i64 (o : Int))) (some (.int .i64 ((o : Int) + (m : Int)))) none).run Try.prog w' = .ok (.slice (some ⟨g, o, none⟩) m (256 - o)) w' := by
  have hu : Try.prog.underlying 67 = some (.array (Try.prog.arrayLen 67) (Try.prog.elem 67)) := by kernel_rfl
  have hl : Try.prog.arrayLen 67 = 256 := by kernel_rfl
  have he : Try.prog.elem 67 = 5 := by kernel_rfl
  have hs : (sizeOf 5).run Try.prog w' = .ok 1 w' := by kernel_rfl
  have hr := run_sliceAt_array_lh (P := Try.prog) w' 67 ⟨g, 0, none⟩ hu .i64 .i64 (o : Int) ((o : Int) + (m : Int)) (by omega) (by omega) (by rw [hl]; omega)
  rw [he, hs] at hr
  rw [hr, hl]
  simp only [Result.andThen, slicedAt]
  rw [if_neg (by simp; omega), Addr.add_mid]
  have e1 : ((o : Int) + (m : Int)).toNat - (o : Int).toNat = m := by omega
  have e2 : 0 + (o : Int).toNat * 1 = o := by omega
  have e3 : (o : Int).toNat = o := by omega
  rw [e1, e2, e3]
theorem cut_from (g o : Nat) (ho : o < 256) (w' : World) :
    (Instr.sliceAt 67 (.pointer (some ⟨g, 0, none⟩)) (some (.int .i64 (o : Int))) none none).run Try.prog w' = .ok (.slice (some ⟨g, o, none⟩) (256 - o) (256 - o)) w' := by
  have hu : Try.prog.underlying 67 = some (.array (Try.prog.arrayLen 67) (Try.prog.elem 67)) := by kernel_rfl
  have hl : Try.prog.arrayLen 67 = 256 := by kernel_rfl
  have he : Try.prog.elem 67 = 5 := by kernel_rfl
  have hs : (sizeOf 5).run Try.prog w' = .ok 1 w' := by kernel_rfl
  have hr := run_sliceAt_array_l (P := Try.prog) w' 67 ⟨g, 0, none⟩ hu .i64 (o : Int) (by omega) (by rw [hl]; omega)
  rw [he, hs] at hr
  rw [hr, hl]
  simp only [Result.andThen, slicedAt]
  rw [if_neg (by simp; omega), Addr.add_mid]
  have e2 : 0 + (o : Int).toNat * 1 = o := by omega
  have e3 : (o : Int).toNat = o := by omega
  rw [e2, e3]

set_option maxRecDepth 100000 in
theorem record_any {w : World} {g : Nat} {B : List Int} {R : List (List Int)} {p : Nat → Prop} (h : Pi w g B R p) (s : Nat) (hs : rc R s ≠ []) (hp : p s) :
    Calls Try.prog 40 #[.pointer (some ⟨g, 0, none⟩), .int .i64 (s : Int)] w fun e w' => e = .returned (.slice (some ⟨g, wd B (8 + 4 * s), none⟩) (rc R s).length (256 - wd B (8 + 4 * s))) ∧ Below w.heap.size w w' := by
  have hlt := rc_lt hs
  have hhi := h.iv.hi s hp hs
  have hpos : 0 < (rc R s).length := List.length_pos_iff.2 hs
  have HO : Hid _ := offset_any h s hlt
  have HL : Hid (∀ w', Below w.heap.size w w' → _) := fun w' hb => length_any (h.later hb) s hlt
  obtain ⟨m, hm⟩ : ∃ m : Nat, (rc R s).length = m := ⟨_, rfl⟩
  obtain ⟨o, ho⟩ : ∃ o : Nat, wd B (8 + 4 * s) = o := ⟨_, rfl⟩
  rw [hm] at HL hhi hpos ⊢
  rw [ho] at HO hhi ⊢
  have HC := cut_any g o m (by omega) hhi
  obtain ⟨c, hc⟩ : ∃ c : Nat, 256 - o = c := ⟨_, rfl⟩
  rw [hc] at HC ⊢
  have hwr : IntKind.i64.wrap ((o : Int) + (m : Int)) = (o : Int) + (m : Int) := by rw [IntKind.wrap_i64]; omega
  clear hm ho hc h hs
  go_enter Try.func40, Try.ntmps40
  go_wp2_with fail
  refine Calls.mono HO.out ?_
  rintro e w1 ⟨rfl, hb1⟩
  go_upto_region 2 with fail
  have hC : Below w.heap.size w w1.drew := hb1.drew
  go_region_held3 (fun _ => True) (trivial) (first | (go_at_call 61; with_reducible refine Calls.mono (HL.out _ hC) ?_; rintro e z1 ⟨rfl, hb2⟩; replace hC := bthen hC hb2))
  all_goals
    go_wp2
    go_ret
    exact ⟨rfl, hC⟩

end Go.Proofs.Ytmfoenhbldacfaa
