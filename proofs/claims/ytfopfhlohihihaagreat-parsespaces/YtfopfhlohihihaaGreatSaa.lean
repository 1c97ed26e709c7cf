import Derived.Test.YtfopfhlohihihaaGreatRows
import Derived.WalkKit
import Derived.WalkSpells
import Derived.WalkLawsBesides
import Derived.BigQuiet
import Derived.Deep.QuietTactic
import Derived.Deep.RegionLaw
import Derived.Deep.DeepCutAuto
import Derived.Deep.CutBlock
import Derived.Laws.BitsAllLaws
import Derived.Laws.BytesArg
import Derived.Deep.AppendSrc
import Derived.Lib.ItoaLen
import Derived.ProofKit
import Derived.OpenShut
import Derived.ShutString
import Derived.ChangeOld
import Derived.Below
import Derived.Deep.Strs
import Derived.ChangeMaps5
namespace Go.Proofs.YtfopfhlohihihaaGreat
open Go.RowKit
set_option linter.unusedVariables false
set_option linter.unusedSimpArgs false
def nth (xs : List Int) (i : Nat) : Int := xs[i]?.getD 0
structure Rd (k : IntKind) (w : World) (ao : Option Addr) (n c : Nat) (xs : List Int) : Prop where
 len : xs.length = n
 cap : n ≤ c
 max : c ≤ 9223372036854775807
 non : ao = none → c = 0
 cells : 0 < n → ∃ b o,ao = some ⟨b,o,none⟩ ∧ ∀ i,i < n → w.cell? ⟨b,o + i,none⟩ = some (.int k (nth xs i))
theorem Rd.nil (k : IntKind) (w : World) : Rd k w none 0 0 [] := ⟨rfl,Nat.le_refl _,by omega,fun _ => rfl,fun h => absurd h (Nat.lt_irrefl _)⟩
theorem ret_bool {a b : Bool} (h : a = b) : Ending.returned (.bool a) = .returned (.bool b) := by rw [h]
theorem Rd.of_owns {k : IntKind} {w : World} {base e : Nat} {v : Value} {out : List Int} (h : w.ownsRow base e 1 v out.length (out.map (Value.int k))) : ∃ ao c,v = .slice ao out.length c ∧ Rd k w ao out.length c out := by
 rcases h.2 with ⟨rfl,h0⟩ | ⟨g,cap,cur,rfl,hb,hg,hn,hc,hs,ht⟩
 ·have : out = [] := List.eq_nil_of_length_eq_zero h0
  subst this
  exact ⟨none,0,rfl,Rd.nil k w⟩
 ·refine ⟨_,cap,rfl,⟨rfl,hn,hc,fun e => by simp at e,fun hp => ⟨g,0,rfl,fun i hi => ?_⟩⟩⟩
  have := h.cellAt i (by omega)
  rw [show 0 + i = i from by omega,this,List.getElem?_map,nth,List.getElem?_eq_getElem hi]
  rfl
theorem below_grown {B : Nat} {a w w' : World} {base e size : Nat} {v : Value} {n : Nat} {xs : List Value} (hb : Below B a w) (hB : B ≤ w.heap.size) (h : w.ownsRow base e size v n xs) (hbase : B ≤ base) (hg : w.grownBy w' v.ownBlock) : Below B a w' :=
 hb.grown hg hB fun k hk => Nat.le_trans hbase (h.lt k hk).1
theorem ints_one (k : IntKind) (xs : List Int) : ∀ u ∈ xs.map (Value.int k),u.oneCell' = true := by
 intro u hu
 obtain ⟨x,_,rfl⟩ := List.mem_map.1 hu
 rfl
theorem Tryz.info5 : (Tryz.prog.info? 5).map (fun i => (i.zero,i.size,i.bytes)) = some (some (.int .u8 0),1,1) := by kernel_rfl
theorem one_new (w : World) (nq : Nat) (x : Value) (e : TypeId) : ∀ (j : Nat) (u : Value),[x][j]? = some u → ((w.drewN nq).alloc (.cells #[x] e)).cell? ((⟨w.heap.size,0,none⟩ : Addr).add j) = some u := by
 intro j u hj
 match j,hj with
 | 0,hj =>
  simp at hj
  subst hj
  exact cell_one_new (w.drewN nq) x e 0 x rfl
theorem one_new0 (w : World) (x : Value) (e : TypeId) : ∀ (j : Nat) (u : Value),[x][j]? = some u → (w.alloc (.cells #[x] e)).cell? ((⟨w.heap.size,0,none⟩ : Addr).add j) = some u := one_new w 0 x e
def Own (B : Nat) (w : World) (v : Value) (l : List Int) : Prop := w.ownsRow B 5 1 v l.length (l.map (Value.int .u8))
def SrcB (w : World) (tx : TypeId) (x : Value) (l : List Int) : Prop := Src Tryz.prog 1 tx x l.length (l.map (Value.int .u8)) w
def NN (v v' : Value) : Prop := v ≠ .slice none 0 0 → v' ≠ .slice none 0 0
theorem Own.nil (B : Nat) (w : World) : Own B w (.slice none 0 0) [] := World.ownsRow_nil w B 5 1
theorem Own.rd {B : Nat} {w : World} {v : Value} {l : List Int} (h : Own B w v l) : ∃ ao c,v = .slice ao l.length c ∧ Rd .u8 w ao l.length c l := Rd.of_owns h
theorem Own.alloc {B : Nat} {w : World} {v : Value} {l : List Int} (h : Own B w v l) (o : Obj) : Own B (w.alloc o) v l := World.ownsRow.alloc h o
theorem Own.drew {B : Nat} {w : World} {v : Value} {l : List Int} (h : Own B w v l) : Own B w.drew v l := h
theorem SrcB.one (w : World) (x : Int) : SrcB (w.alloc (.cells #[.int .u8 x] 5)) 22 (.slice (some ⟨w.heap.size,0,none⟩) 1 1) [x] :=
 Src.ofSlice (w.alloc (.cells #[.int .u8 x] 5)) Tryz.underlying22 _ 1 1 [.int .u8 x] rfl (one_new0 w (.int .u8 x) 5) (ints_one .u8 [x])
theorem run_app (w : World) (B : Nat) (tx ty : TypeId) (v x : Value) (l m : List Int) (hown : Own B w v l) (hs : SrcB w tx x m) (hlm : l.length + m.length ≤ 100000) (hB : B ≤ w.heap.size) :
  ∃ v' w',(Builtin.append_ #[22,tx] ty #[v,x]).run Tryz.prog w = .ok v' w' ∧ Own B w' v' (l ++ m) ∧ w.grownBy w' v.ownBlock ∧ (v ≠ .slice none 0 0 → v' ≠ .slice none 0 0) := by
 obtain ⟨i,hi,hz,hsz,hby⟩ := info_parts Tryz.info5
 have ht := Tryz.underlying22
 obtain ⟨ll,L,hLl⟩ : ∃ n : Nat,∃ L : List Value,l.length = n ∧ l.map (Value.int .u8) = L := ⟨_,_,rfl,rfl⟩
 obtain ⟨hL1,hL2⟩ := hLl
 unfold Own at hown ⊢
 unfold SrcB at hs
 have hlen : (l ++ m).map (Value.int .u8) = L ++ m.map (Value.int .u8) := by rw [← hL2,List.map_append]
 have hll : (l ++ m).length = ll + m.length := by rw [← hL1,List.length_append]
 rw [hlen,hll]
 rw [hL1,hL2] at hown
 have hLlen : L.length = ll := by rw [← hL2,← hL1,List.length_map]
 have grown : ∀ (old : Nat),old < ll + m.length → ∀ (row : Option Nat),
   (w.drew.alloc (.cells ((L ++ m.map (Value.int .u8)).toArray ++ Builtin.zeroCells (Value.int .u8 0).cells (grownCap w (ll + m.length) old 5 - (ll + m.length))) 5)).ownsRow B 5 1
    (.slice (some ⟨w.heap.size,0,none⟩) (ll + m.length) (grownCap w (ll + m.length) old 5)) (ll + m.length) (L ++ m.map (Value.int .u8)) ∧
   w.grownBy (w.drew.alloc (.cells ((L ++ m.map (Value.int .u8)).toArray ++ Builtin.zeroCells (Value.int .u8 0).cells (grownCap w (ll + m.length) old 5 - (ll + m.length))) 5)) row := by
  intro old ho row
  have hge := grownCap_ge w (ll + m.length) old 5
  have hcm : grownCap w (ll + m.length) old 5 ≤ maxLen := grownCap_le_maxLen w (ll + m.length) old 5 (by unfold maxLen; omega)
  refine ⟨⟨by simp [hLlen],.inr ⟨w.heap.size,_,_,rfl,hB,heap_alloc_new w.drew _,hge,hcm,?_,?_⟩⟩,⟨rfl,rfl,rfl,by simp,fun k hk _ => Below.heap_alloc w.drew _ k hk⟩⟩
  ·simp only [Array.size_append,List.size_toArray,size_zeroCells,List.length_append,List.length_map,hLlen]
   simp [Value.cells]
   omega
  ·simp only [Array.toList_append]
   have : (ll + m.length) * 1 = (L ++ m.map (Value.int .u8)).length := by simp [hLlen]
   rw [this]
   exact List.take_left
 have h48 : ∀ cap,cap < ll + m.length → Builtin.nextslicecap (ll + m.length) cap * i.bytes ≤ 281474976710656 := fun cap hc => growslice_fits hc (by rw [hby]; omega)
 have hs' : Src Tryz.prog i.size tx x m.length (m.map (Value.int .u8)) w := by rw [hsz]; exact hs
 rcases hown.2 with ⟨rfl,h0⟩ | ⟨g,cap,cur,rfl,hbg,hg,hnc,hcm,hcs,htake⟩
 ·subst h0
  obtain rfl : L = [] := List.eq_nil_of_length_eq_zero hLlen
  by_cases hm : m = []
  ·subst hm
   refine ⟨.slice none 0 0,w,?_,World.ownsRow_nil w B 5 1,⟨rfl,rfl,rfl,Nat.le_refl _,fun _ _ _ => rfl⟩,fun h => h⟩
   have hc : (Builtin.firstCells i.size 0 x).run Tryz.prog w = .ok #[] w := hs'.cells
   have hl0 : ∀ w' : World,(Builtin.lenOf x).run Tryz.prog w' = .ok 0 w' := hs'.len
   rcases hs'.kind with ⟨e',hk⟩ | hk <;> simp [Builtin.append_,run_underlying ht,run_underlying hk,sizeOf,typeInfo,hi,hl0,hc]
  ·have hmp : 0 < m.length := List.length_pos_iff.2 hm
   have hr := run_append_grow_src w 22 tx ty 5 i (.int .u8 0) ht hi hz none 0 0 [] (by simp [Builtin.firstCells]) x m.length _ hs' (by omega) (by omega) (h48 0 (by omega))
   have hgr := grown 0 (by omega) (Value.ownBlock (.slice none 0 0))
   exact ⟨_,_,hr,hgr.1,hgr.2,fun _ => by simp⟩
 ·by_cases hroom : ll + m.length ≤ cap
  ·have hfit : ll * i.size + (m.map (Value.int .u8)).length ≤ cur.size := by rw [hsz,List.length_map]; omega
   have hst := run_storeCells_at Tryz.prog g (ll * i.size) 5 (m.map (Value.int .u8)) 0 cur w hg (by simpa using hfit) (ints_one _ _)
   simp only [Nat.add_zero] at hst
   have hr : (Builtin.append_ #[22,tx] ty #[.slice (some ⟨g,0,none⟩) ll cap,x]).run Tryz.prog w = .ok (.slice (some ⟨g,0,none⟩) (ll + m.length) cap) (w.setRow g (cur.toList.take (ll * i.size) ++ m.map (Value.int .u8) ++ cur.toList.drop (ll * i.size + (m.map (Value.int .u8)).length)).toArray) := by
    rcases hs'.kind with ⟨e',hk⟩ | hk <;> simp [Builtin.append_,run_underlying ht,run_underlying hk,sizeOf,typeInfo,hi,hs'.len,hroom,hs'.cells,Addr.add_lit,hst]
   rw [hsz] at hr hfit
   refine ⟨_,_,hr,⟨by simp [hLlen],.inr ⟨g,cap,_,rfl,hbg,setRow_heap w g cur _ 5 _ hg,hroom,hcm,?_,?_⟩⟩,⟨rfl,rfl,rfl,by simp,fun k _ hk => setRow_other w g k _ (fun e => hk (by simp [Value.ownBlock,e]))⟩,by simp⟩
   ·simp only [List.size_toArray,List.length_append,List.length_take,List.length_drop,Array.length_toList]
    omega
   ·rw [htake]
    have : (ll + m.length) * 1 = (L ++ m.map (Value.int .u8)).length := by simp [hLlen]
    rw [this]
    exact List.take_left
  ·have hold : (Builtin.firstCells i.size ll (.slice (some ⟨g,0,none⟩) ll cap)).run Tryz.prog w.drew = .ok L.toArray w.drew := by
    have := hown.cells (g := g) rfl
    exact run_firstCells_some w.drew i.size ll ⟨g,0,none⟩ ll cap L (by rw [hsz,hLlen]; omega) (by simpa using this)
   have hr := run_append_grow_src w 22 tx ty 5 i (.int .u8 0) ht hi hz (some ⟨g,0,none⟩) ll cap L hold x m.length _ hs' (by omega) (by omega) (h48 cap (by omega))
   have hgr := grown cap (by omega) (Value.ownBlock (.slice (some ⟨g,0,none⟩) ll cap))
   exact ⟨_,_,hr,hgr.1,hgr.2,fun _ => by simp⟩
theorem Own.below {B : Nat} {w w' : World} {v : Value} {l : List Int} (h : Own B w v l) (hB : B ≤ w.heap.size) (hg : w.grownBy w' v.ownBlock) : Below B w w' :=
 below_grown (Below.refl B w) hB h (Nat.le_refl _) hg
theorem step_app {ops : Array Oper} {o : Oper} {a : Act} {w : World} {K : Act → World → Prop} {Q : Exit → Act → World → Prop} {E : Prop}
  (hgd : o.guard = none) (s x : Operand) (tx : TypeId) (ho : o.op = Op.call { callee := Callee.builtin Builtin.append,args := #[s,x],argTypes := #[22,tx] })
  (B : Nat) (v xv : Value) (l m : List Int) (hs : a.eval s = v) (hx : a.eval x = xv) (hown : Own B w v l) (hsrc : SrcB w tx xv m) (hlm : l.length + m.length ≤ 100000) (hB : B ≤ w.heap.size)
  (h : ∀ v' w',Own B w' v' (l ++ m) → w.grownBy w' v.ownBlock → NN v v' → K (a.put o.dst v') w') :
  if Region.wanted o (yielded ops a.tmps) = true then Oper.wp Tryz.prog o a w K Q else E := by
 have hw : Region.wanted o (yielded ops a.tmps) = true := by simp [Region.wanted,hgd]
 rw [if_pos hw]
 obtain ⟨v',w',hr,h2,h3,h4⟩ := run_app w B tx o.type v xv l m hown hsrc hlm hB
 unfold Oper.wp
 simp [execOp,ho,resolve,invoke,builtin,hs,hx,hr,Result.andThen]
 exact h v' w' h2 h3 h4
abbrev Fits (z : Int) : Prop := -9223372036854775808 ≤ z ∧ z ≤ 9223372036854775807
def nV (z : Int) : Int := if Fits z then z else 0
def nE (z : Int) : Int := if Fits z then 0 else 8
def nA (z : Int) : Value := .tuple #[.int .i64 (nV z),.int .i64 (nE z)]
theorem nA_in {z : Int} (h : Fits z) : nA z = .tuple #[.int .i64 z,.int .i64 0] := by simp [nA,nV,nE,h]
theorem nA_out {z : Int} (h : ¬ Fits z) : nA z = .tuple #[.int .i64 0,.int .i64 8] := by simp [nA,nV,nE,h]
set_option maxRecDepth 100000 in
theorem fit_yes (n : Int) (w : World) : Calls Tryz.prog 125 #[.int .i64 n,.bool true] w fun e w' => e = .returned (.tuple #[.int .i64 n,.int .i64 0]) ∧ w' = w := by
 go_enter Tryz.func125,Tryz.ntmps125
 go_wp2
 go_ret2
 exact ⟨rfl,rfl⟩
set_option maxRecDepth 100000 in
theorem fit_no (n : Int) (w : World) : Calls Tryz.prog 125 #[.int .i64 n,.bool false] w fun e w' => e = .returned (.tuple #[.int .i64 0,.int .i64 8]) ∧ w' = w := by
 go_enter Tryz.func125,Tryz.ntmps125
 go_wp2
 go_ret2
 exact ⟨rfl,rfl⟩
theorem add_fits {a b : Int} (h : Fits (a + b)) : (decide (a + b < a) == decide (b < 0)) = true := by
 have : decide (a + b < a) = decide (b < 0) := by rw [Bool.eq_iff_iff]; simp; omega
 simp [this]
theorem wrap_in {z : Int} (h : Fits z) : wrap64 z = z := by obtain ⟨h1,h2⟩ := h; unfold wrap64; omega
theorem add_over {a b : Int} (ha : Fits a) (hb : Fits b) (h : ¬ Fits (a + b)) : (decide (wrap64 (a + b) < a) == decide (b < 0)) = false := by
 unfold Fits wrap64 at *
 by_cases h0 : b < 0
 ·have : ¬ ((a + b + 9223372036854775808) % 18446744073709551616 - 9223372036854775808 < a) := by omega
  simp [this,h0]
 ·have : ((a + b + 9223372036854775808) % 18446744073709551616 - 9223372036854775808 < a) := by omega
  simp [this,h0]
theorem sub_fits {a b : Int} (h : Fits (a - b)) : (decide (a - b < a) == decide (0 < b)) = true := by
 have : decide (a - b < a) = decide (0 < b) := by rw [Bool.eq_iff_iff]; simp; omega
 simp [this]
theorem sub_over {a b : Int} (ha : Fits a) (hb : Fits b) (h : ¬ Fits (a - b)) : (decide (wrap64 (a - b) < a) == decide (0 < b)) = false := by
 unfold Fits wrap64 at *
 by_cases h0 : 0 < b
 ·have : ¬ ((a - b + 9223372036854775808) % 18446744073709551616 - 9223372036854775808 < a) := by omega
  simp [this,h0]
 ·have : ((a - b + 9223372036854775808) % 18446744073709551616 - 9223372036854775808 < a) := by omega
  simp [this,h0]
theorem wrap_fits (z : Int) : Fits (wrap64 z) := by unfold Fits wrap64; omega
theorem wrap_off (z : Int) : ∃ m : Int,z = wrap64 z + m * 18446744073709551616 := ⟨(z + 9223372036854775808) / 18446744073709551616,by unfold wrap64; omega⟩
theorem tmod_small {r b : Int} (hb : b ≠ 0) : (r.tmod b).natAbs < b.natAbs := by
 rw [Int.natAbs_tmod]
 exact Nat.mod_lt _ (by omega)
theorem tdiv_fits {r b : Int} (hr : Fits r) (h0 : b ≠ 0) (h1 : b ≠ -1) : Fits (r.tdiv b) := by
 by_cases e : b = 1
 ·subst e; rw [Int.tdiv_one]; exact hr
 ·have hq : (r.tdiv b).natAbs = r.natAbs / b.natAbs := Int.natAbs_tdiv r b
  have hle : r.natAbs / b.natAbs ≤ r.natAbs / 2 := Nat.div_le_div_left (by omega) (by omega)
  unfold Fits at *
  omega
theorem mul_over {a b : Int} (ha : Fits a) (hb : Fits b) (h0 : b ≠ 0) (h1 : b ≠ -1) (h : ¬ Fits (a * b)) : (wrap64 ((wrap64 (a * b)).tdiv b) == a) = false := by
 rw [wrap_in (tdiv_fits (wrap_fits _) h0 h1)]
 cases e : (wrap64 (a * b)).tdiv b == a with
 | false => rfl
 | true =>
  exfalso
  have e' : (wrap64 (a * b)).tdiv b = a := by simpa using e
  have hd := Int.mul_tdiv_add_tmod (wrap64 (a * b)) b
  rw [e',Int.mul_comm b a] at hd
  have ht := tmod_small (r := wrap64 (a * b)) h0
  obtain ⟨m,hm⟩ := wrap_off (a * b)
  have hm0 : m ≠ 0 := by
   rintro rfl
   apply h
   rw [show a * b = wrap64 (a * b) from by omega]
   exact wrap_fits _
  unfold Fits at hb
  omega
set_option maxRecDepth 100000 in
theorem add_any (a b : Int) (ha : Fits a) (hb : Fits b) (w : World) : Calls Tryz.prog 121 #[.int .i64 a,.int .i64 b] w fun e w' => e = .returned (nA (a + b)) ∧ w' = w := by
 by_cases h : Fits (a + b)
 ·rw [nA_in h]
  have hd := add_fits h
  obtain ⟨h1,h2⟩ := h
  clear ha hb
  go_enter Tryz.func121,Tryz.ntmps121
  go_wp2_with fail
  refine Calls.mono (fit_yes _ _) ?_
  rintro e w' ⟨rfl,rfl⟩
  go_wp2
  go_ret2
  exact ⟨rfl,rfl⟩
 ·rw [nA_out h]
  have hd := add_over ha hb h
  clear ha hb h
  go_enter Tryz.func121,Tryz.ntmps121
  go_wp2_with fail
  refine Calls.mono (fit_no _ _) ?_
  rintro e w' ⟨rfl,rfl⟩
  go_wp2
  go_ret2
  exact ⟨rfl,rfl⟩
set_option maxRecDepth 100000 in
theorem sub_any (a b : Int) (ha : Fits a) (hb : Fits b) (w : World) : Calls Tryz.prog 127 #[.int .i64 a,.int .i64 b] w fun e w' => e = .returned (nA (a - b)) ∧ w' = w := by
 by_cases h : Fits (a - b)
 ·rw [nA_in h]
  have hd := sub_fits h
  obtain ⟨h1,h2⟩ := h
  clear ha hb
  go_enter Tryz.func127,Tryz.ntmps127
  go_wp2_with fail
  refine Calls.mono (fit_yes _ _) ?_
  rintro e w' ⟨rfl,rfl⟩
  go_wp2
  go_ret2
  exact ⟨rfl,rfl⟩
 ·rw [nA_out h]
  have hd := sub_over ha hb h
  clear ha hb h
  go_enter Tryz.func127,Tryz.ntmps127
  go_wp2_with fail
  refine Calls.mono (fit_no _ _) ?_
  rintro e w' ⟨rfl,rfl⟩
  go_wp2
  go_ret2
  exact ⟨rfl,rfl⟩
set_option maxRecDepth 100000 in
theorem neg_any (a : Int) (ha : Fits a) (w : World) : Calls Tryz.prog 124 #[.int .i64 a] w fun e w' => e = .returned (nA (-a)) ∧ w' = w := by
 have H := sub_any 0 a (by decide) ha w
 rw [Int.zero_sub] at H
 replace H : Hid _ := H
 clear ha
 go_enter Tryz.func124,Tryz.ntmps124
 go_wp2_with fail
 refine Calls.mono H.out ?_
 rintro e w' ⟨rfl,rfl⟩
 unfold nA
 go_wp2
 go_ret2
 exact ⟨rfl,rfl⟩
set_option maxRecDepth 100000 in
theorem mul_any (a b : Int) (ha : Fits a) (hb : Fits b) (w : World) : Calls Tryz.prog 120 #[.int .i64 a,.int .i64 b] w fun e w' => e = .returned (nA (a * b)) ∧ w' = w := by
 by_cases h0 : b = 0
 ·subst h0
  rw [Int.mul_zero,nA_in (by decide)]
  clear ha hb
  go_enter Tryz.func120,Tryz.ntmps120
  go_wp2
  go_ret2
  exact ⟨rfl,rfl⟩
 by_cases h1 : b = -1
 ·subst h1
  have H := neg_any a ha w
  rw [show a * -1 = -a from by omega]
  replace H : Hid _ := H
  clear ha hb h0
  go_enter Tryz.func120,Tryz.ntmps120
  go_wp2_with fail
  refine Calls.mono H.out ?_
  rintro e w' ⟨rfl,rfl⟩
  unfold nA
  go_wp2
  go_ret2
  exact ⟨rfl,rfl⟩
 have g0 : (b == 0) = false := by simpa using h0
 have g1 : (b == -1) = false := by simpa using h1
 by_cases h : Fits (a * b)
 ·rw [nA_in h]
  obtain ⟨k1,k2⟩ := h
  obtain ⟨k3,k4⟩ := ha
  obtain ⟨k5,k6⟩ := hb
  go_enter Tryz.func120,Tryz.ntmps120
  go_wp2_with fail
  refine Calls.mono (fit_yes _ _) ?_
  rintro e w' ⟨rfl,rfl⟩
  go_wp2
  go_ret2
  exact ⟨rfl,rfl⟩
 ·rw [nA_out h]
  have hd := mul_over ha hb h0 h1 h
  clear h ha hb
  go_enter Tryz.func120,Tryz.ntmps120
  go_wp2_with fail
  refine Calls.mono (fit_no _ _) ?_
  rintro e w' ⟨rfl,rfl⟩
  go_wp2
  go_ret2
  exact ⟨rfl,rfl⟩
theorem ret_u64 {a b : Int} (h : a = b) : Ending.returned (.int .u64 a) = .returned (.int .u64 b) := by rw [h]
set_option maxRecDepth 100000 in
theorem size_any (a : Int) (ha : Fits a) (w : World) : Calls Tryz.prog 61 #[.int .i64 a] w fun e w' => e = .returned (.int .u64 a.natAbs) ∧ w' = w := by
 obtain ⟨a1,a2⟩ := ha
 by_cases h0 : a < 0
 ·have g1 : decide (a < 0) = true := by simpa using h0
  go_enter Tryz.func61,Tryz.ntmps61
  go_wp2
  go_ret
  exact ⟨ret_u64 (show -(a + 1) + 1 = _ by omega),rfl⟩
 ·have g1 : decide (a < 0) = false := by simpa using h0
  go_enter Tryz.func61,Tryz.ntmps61
  go_wp2
  go_ret
  exact ⟨ret_u64 (show a = _ by omega),rfl⟩
def isDig (x : UInt8) : Bool := decide (48 ≤ x.toNat) && decide (x.toNat ≤ 57)
def val (l : List UInt8) : Nat := l.foldl (fun n x => n * 10 + (x.toNat - 48)) 0
def bs (s : ByteArray) : List UInt8 := s.data.toList
def isNum (l : List UInt8) : Bool := decide (0 < l.length) && l.all isDig
def pA (l : List UInt8) : Value := if isNum l then nA (val l) else .tuple #[.int .i64 0,.int .i64 3]
theorem bs_length (s : ByteArray) : (bs s).length = s.size := Array.length_toList
theorem bs_at (s : ByteArray) (k : Nat) (h : k < s.size) : (bs s)[k]? = some s[k] := by
 have h' : k < (bs s).length := by rw [bs_length]; exact h
 rw [List.getElem?_eq_getElem h']
 rfl
theorem take_snoc {l : List UInt8} {k : Nat} {x : UInt8} (h : l[k]? = some x) : l.take (k + 1) = l.take k ++ [x] := by
 rw [List.take_add_one,h]; rfl
theorem all_take {l : List UInt8} {k : Nat} {x : UInt8} (h : l[k]? = some x) (hp : (l.take k).all isDig = true) (hx : isDig x = true) : (l.take (k + 1)).all isDig = true := by
 rw [take_snoc h,List.all_append,hp]; simp [hx]
theorem all_not {l : List UInt8} {k : Nat} {x : UInt8} (h : l[k]? = some x) (hx : isDig x = false) : l.all isDig = false := by
 cases e : l.all isDig with
 | false => rfl
 | true =>
  have := List.all_eq_true.1 e x (List.mem_of_getElem? h)
  rw [hx] at this; cases this
theorem val_snoc (l : List UInt8) (x : UInt8) : val (l ++ [x]) = val l * 10 + (x.toNat - 48) := by simp [val,List.foldl_append]
theorem val_take {l : List UInt8} {k : Nat} {x : UInt8} (h : l[k]? = some x) : val (l.take (k + 1)) = val (l.take k) * 10 + (x.toNat - 48) := by rw [take_snoc h,val_snoc]
theorem val_grows (l m : List UInt8) : val l ≤ val (l ++ m) := by
 induction m generalizing l with
 | nil => simp
 | cons x m ih =>
  have := ih (l ++ [x])
  rw [List.append_assoc,List.singleton_append,val_snoc] at this
  omega
theorem val_take_le (l : List UInt8) (k : Nat) : val (l.take k) ≤ val l := by
 have := val_grows (l.take k) (l.drop k)
 rwa [List.take_append_drop] at this
set_option maxRecDepth 100000 in
theorem digits_any (s : ByteArray) (hs : s.size ≤ 9223372036854775807) (w : World) : Calls Tryz.prog 114 #[.string s] w fun e w' => e = .returned (.bool (isNum (bs s))) ∧ w' = w := by
 go_enter Tryz.func114,Tryz.ntmps114
 go_wp2
 go_loopw [6] (fun i wr => ∃ k : Nat,k ≤ s.size ∧ i = .int .i64 k ∧ ((bs s).take k).all isDig = true ∧ wr = w) (fun i _ => s.size - (intOf i).toNat)
 case atStart => exact ⟨0,by omega,rfl,by simp,rfl⟩
 case round =>
  obtain ⟨k,hk,rfl,hd,rfl⟩ := hrel
  have HD : Hid _ := hd
  clear hd
  by_cases hlt : k < s.size
  ·have hat : Hid _ := bs_at s k hlt
   cases hx : isDig s[k] with
   | true =>
    have f := hx
    rw [isDig,Bool.and_eq_true,decide_eq_true_iff,decide_eq_true_iff] at f
    have f1 : decide (((s[k]).toNat : Int) < 48) = false := by simp; omega
    have f2 : decide (57 < ((s[k]).toNat : Int)) = false := by simp; omega
    replace hx : Hid _ := hx
    clear f
    go_wp2
    go_roundw
    case rel => exact ⟨k + 1,by omega,by go_num,all_take hat.out HD.out hx.out,trivial⟩
    case measure => simp only [intOf]; omega
   | false =>
    have hn : isNum (bs s) = false := by rw [isNum,all_not hat.out hx,Bool.and_false]
    rw [isDig,Bool.and_eq_false_iff,decide_eq_false_iff_not,decide_eq_false_iff_not] at hx
    replace hn : Hid _ := hn
    clear hat
    by_cases hlo : ((s[k]).toNat : Int) < 48
    ·have f1 : decide (((s[k]).toNat : Int) < 48) = true := by simpa using hlo
     clear hx
     go_wp2
     go_ret
     exact ⟨ret_bool hn.out.symm,rfl⟩
    ·have f1 : decide (((s[k]).toNat : Int) < 48) = false := by simpa using hlo
     have f2 : decide (57 < ((s[k]).toNat : Int)) = true := by simp; omega
     clear hx
     go_wp2
     go_ret
     exact ⟨ret_bool hn.out.symm,rfl⟩
  ·have hn : isNum (bs s) = decide (0 < s.size) := by
    have := HD.out
    rw [List.take_of_length_le (by rw [bs_length]; omega)] at this
    rw [isNum,this,Bool.and_true,bs_length]
   replace hn : Hid _ := hn
   go_wp2
   go_ret
   exact ⟨ret_bool (show (!s.toList.isEmpty) = _ by rw [hn.out,ByteArray.toList_eq,← bs_length]; cases e : s.data.toList <;> simp [bs,e]),rfl⟩
set_option maxRecDepth 100000 in
theorem behind_any (n d : Int) (hn : 0 ≤ n) (hf : Fits n) (hd : 0 ≤ d ∧ d ≤ 9) (w : World) : Calls Tryz.prog 115 #[.int .i64 n,.int .i64 d] w fun e w' => e = .returned (nA (n * 10 + d)) ∧ w' = w := by
 have HM : Hid _ := mul_any n 10 hf (by decide) w
 by_cases h : Fits (n * 10)
 ·have HA : Hid _ := add_any (n * 10) d h (by unfold Fits; omega) w
  rw [nA_in h] at HM
  clear hf hn hd h
  go_enter Tryz.func115,Tryz.ntmps115
  go_wp2_with fail
  refine Calls.mono HM.out ?_
  rintro e w' ⟨rfl,rfl⟩
  go_wp2_with fail
  refine Calls.mono HA.out ?_
  rintro e w' ⟨rfl,rfl⟩
  unfold nA
  go_wp2
  go_ret2
  exact ⟨rfl,rfl⟩
 ·have h2 : ¬ Fits (n * 10 + d) := by unfold Fits at *; omega
  rw [nA_out h] at HM
  rw [nA_out h2]
  clear hf hn hd h h2
  go_enter Tryz.func115,Tryz.ntmps115
  go_wp2_with fail
  refine Calls.mono HM.out ?_
  rintro e w' ⟨rfl,rfl⟩
  go_wp2
  go_ret2
  exact ⟨rfl,rfl⟩
theorem not_fits_up {l : List UInt8} {k : Nat} (h : ¬ Fits (val (l.take k))) : ¬ Fits (val l) := by
 have := val_take_le l k
 unfold Fits at *
 omega
set_option maxRecDepth 100000 in
theorem parse_any (s : ByteArray) (hs : s.size ≤ 9223372036854775807) (w : World) : Calls Tryz.prog 106 #[.string s] w fun e w' => e = .returned (pA (bs s)) ∧ w' = w := by
 have HD : Hid _ := digits_any s hs w
 cases hb : isNum (bs s) with
 | false =>
  rw [hb] at HD
  rw [show pA (bs s) = .tuple #[.int .i64 0,.int .i64 3] from by rw [pA,hb]; rfl]
  clear hb
  go_enter Tryz.func106,Tryz.ntmps106
  go_wp2_with fail
  refine Calls.mono HD.out ?_
  rintro e w' ⟨rfl,rfl⟩
  go_wp2
  go_ret2
  exact ⟨rfl,rfl⟩
 | true =>
  rw [hb] at HD
  rw [show pA (bs s) = nA (val (bs s)) from by rw [pA,hb]; rfl]
  have hall : ∀ (k : Nat) (x : UInt8),(bs s)[k]? = some x → 48 ≤ x.toNat ∧ x.toNat ≤ 57 := by
   rw [isNum,Bool.and_eq_true] at hb
   intro k x hx
   have := List.all_eq_true.1 hb.2 x (List.mem_of_getElem? hx)
   simpa [isDig] using this
  replace hall : Hid _ := hall
  clear hb
  go_enter Tryz.func106,Tryz.ntmps106
  go_wp2_with fail
  refine Calls.mono HD.out ?_
  rintro e w' ⟨rfl,rfl⟩
  clear HD
  go_wp2
  go_loopw [4,5,6] (fun v f i wr => ∃ k : Nat,k ≤ s.size ∧ i = .int .i64 k ∧ v = .int .i64 (nV (val ((bs s).take k))) ∧ f = .int .i64 (nE (val ((bs s).take k))) ∧ wr = w') (fun _ _ i _ => s.size - (intOf i).toNat)
  case atStart => exact ⟨0,by omega,rfl,rfl,rfl,rfl⟩
  case round =>
   obtain ⟨k,hk,rfl,rfl,rfl,rfl⟩ := hrel
   by_cases hf : Fits (val ((bs s).take k))
   ·rw [show nE (val ((bs s).take k)) = 0 from by simp [nE,hf],show nV (val ((bs s).take k)) = val ((bs s).take k) from by simp [nV,hf]]
    by_cases hlt : k < s.size
    ·have hat := bs_at s k hlt
     obtain ⟨d1,d2⟩ := hall.out k _ hat
     have hv : Hid _ := val_take hat
     clear hat
     generalize hz : val ((bs s).take k) = z at *
     have HB : Hid _ := behind_any (z : Int) ((s[k].toNat : Int) - 48) (by omega) hf (by omega) wr
     clear hf
     have hn : ((z * 10 + (s[k].toNat - 48) : Nat) : Int) = (z : Int) * 10 + ((s[k].toNat : Int) - 48) := by omega
     replace hn : Hid _ := hn
     replace hz : Hid _ := hz
     go_wp2_with fail
     refine Calls.mono HB.out ?_
     rintro e w1 ⟨rfl,rfl⟩
     rw [← hn.out,← hv.out]
     clear HB hn
     unfold nA
     generalize hq : val ((bs s).take (k + 1)) = q
     replace hq : Hid _ := hq
     go_wp2
     go_roundw
     case rel => exact ⟨k + 1,by omega,by go_num,by rw [hq.out],by rw [hq.out],trivial⟩
     case measure => simp only [intOf]; omega
    ·have hv : val ((bs s).take k) = val (bs s) := by rw [List.take_of_length_le (by rw [bs_length]; omega)]
     rw [hv] at hf ⊢
     have hend := nA_in hf
     replace hend : Hid _ := hend
     clear hv hf
     go_wp2
     go_ret2
     exact ⟨by rw [hend.out]; rfl,rfl⟩
   ·rw [show nE (val ((bs s).take k)) = 8 from by simp [nE,hf],show nV (val ((bs s).take k)) = 0 from by simp [nV,hf]]
    have hend : Hid _ := nA_out (not_fits_up hf)
    clear hf
    go_wp2
    all_goals go_ret2
    all_goals exact ⟨by rw [hend.out]; rfl,rfl⟩
set_option maxRecDepth 100000 in
theorem Parse_any (s : ByteArray) (hs : s.size ≤ 9223372036854775807) (w : World) : Calls Tryz.prog 92 #[.string s] w fun e w' => e = .returned (pA (bs s)) ∧ w' = w := by
 have H : Hid _ := parse_any s hs w
 have hp : ∃ x y : Int,pA (bs s) = .tuple #[.int .i64 x,.int .i64 y] := by
  unfold pA
  split
  ·exact ⟨_,_,rfl⟩
  ·exact ⟨_,_,rfl⟩
 obtain ⟨x,y,hp⟩ := hp
 rw [hp] at H ⊢
 clear hp
 go_enter Tryz.func92,Tryz.ntmps92
 go_wp2_with fail
 refine Calls.mono H.out ?_
 rintro e w' ⟨rfl,rfl⟩
 go_wp2
 go_ret2
 exact ⟨rfl,rfl⟩
def Shown (m : Nat) (t : List UInt8) (r : Nat) : Prop := (t = [] ∧ r = m) ∨ (t ≠ [] ∧ ((r = 0 ∧ t = Lib.decDigits m) ∨ (0 < r ∧ Lib.decDigits r ++ t = Lib.decDigits m)))
def bare : Value → Nat | .string s => if s.size = 0 then 1 else 0 | _ => 0
theorem bare_nil : bare (.string ⟨#[]⟩) = 1 := rfl
theorem bare_cons (x : UInt8) (t : List UInt8) : bare (.string ⟨(x :: t).toArray⟩) = 0 := by simp [bare,ByteArray.size]
theorem dec_one {u : Nat} (h : u < 10) : Lib.decDigits u = [UInt8.ofNat (48 + u)] := Lib.decDigits_one h
theorem dec_more {u : Nat} (h : ¬ u < 10) : Lib.decDigits u = Lib.decDigits (u / 10) ++ [UInt8.ofNat (48 + u % 10)] := by rw [Lib.decDigits,dif_neg h]
def dgt (r : Nat) : UInt8 := UInt8.ofNat (48 + r % 10)
theorem dgt_nat (r : Nat) : ((dgt r).toNat : Int) = 48 + (r : Int) % 10 := by
 have : (UInt8.ofNat (48 + r % 10)).toNat = 48 + r % 10 := by rw [UInt8.toNat_ofNat']; omega
 rw [dgt,this]; omega
theorem cat_str (x : UInt8) (t : List UInt8) : (⟨#[x]⟩ : ByteArray) ++ ⟨t.toArray⟩ = ⟨(x :: t).toArray⟩ := by
 apply ByteArray.ext
 simp [ByteArray.data_append]
theorem shown_step {m r : Nat} {t : List UInt8} (h : Shown m t r) (hgo : 0 < r ∨ t = []) : Shown m (dgt r :: t) (r / 10) := by
 rw [dgt]
 refine .inr ⟨by simp,?_⟩
 rcases h with ⟨rfl,rfl⟩ | ⟨ht,⟨rfl,rfl⟩ | ⟨hr,he⟩⟩
 ·by_cases h10 : r < 10
  ·exact .inl ⟨by omega,by rw [dec_one h10,Nat.mod_eq_of_lt h10]⟩
  ·exact .inr ⟨by omega,by rw [dec_more h10]⟩
 ·rcases hgo with hgo | hgo
  ·omega
  ·exact absurd hgo ht
 ·by_cases h10 : r < 10
  ·exact .inl ⟨by omega,by rw [← he,dec_one h10,Nat.mod_eq_of_lt h10]; rfl⟩
  ·exact .inr ⟨by omega,by rw [← he,dec_more h10]; simp⟩
theorem shown_end {m r : Nat} {t : List UInt8} (h : Shown m t r) (hr : r = 0) (ht : t ≠ []) : t = Lib.decDigits m := by
 rcases h with ⟨rfl,_⟩ | ⟨_,⟨_,h⟩ | ⟨h,_⟩⟩
 ·exact absurd rfl ht
 ·exact h
 ·omega
theorem shown_len {m r : Nat} {t : List UInt8} (h : Shown m t r) : t.length ≤ (Lib.decDigits m).length := by
 rcases h with ⟨rfl,_⟩ | ⟨_,⟨_,rfl⟩ | ⟨_,h⟩⟩
 ·simp
 ·simp
 ·rw [← h]; simp
theorem one_byte (w : World) (r : Nat) : (convert 22 9 (.slice (some ⟨w.heap.size,0,none⟩) 1 1)).run Tryz.prog (w.alloc (.cells #[.int .u8 (48 + (r : Int) % 10)] 5)) = .ok (.string ⟨#[dgt r]⟩) (w.alloc (.cells #[.int .u8 (48 + (r : Int) % 10)] 5)) := by
 refine run_convert_bytes_back (P := Tryz.prog) (w.alloc (.cells #[.int .u8 (48 + (r : Int) % 10)] 5)) 22 9 5 ⟨w.heap.size,0,none⟩ 1 [dgt r] Tryz.underlying22 Tryz.underlying5 Tryz.underlying9 ?_
 intro j hj
 obtain rfl : j = 0 := by simpa using hj
 rw [List.getElem_cons_zero,dgt_nat]
 simp [Addr.add,World.cell?_alloc_at]
theorem dec_len {m : Nat} (h : m ≤ 9223372036854775808) : (Lib.decDigits m).length ≤ 21 := by
 have := Lib.itoa_length_le (-(m : Int)) (by omega) (by omega)
 by_cases h0 : 1 ≤ m
 ·rw [Lib.itoa_neg m h0] at this
  simp at this
  omega
 ·obtain rfl : m = 0 := by omega
  simp [dec_one]
theorem itoa_neg' {a : Int} {m : Nat} (hm : a.natAbs = m) (h : a < 0) : Lib.itoa a = 45 :: Lib.decDigits m := by rw [Lib.itoa,if_pos h,hm]
theorem itoa_pos' {a : Int} {m : Nat} (hm : a.natAbs = m) (h : ¬ a < 0) : Lib.itoa a = Lib.decDigits m := by rw [Lib.itoa,if_neg h,← hm]; congr 1; omega
theorem ret_str {a b : ByteArray} (h : a = b) : Ending.returned (.string a) = .returned (.string b) := by rw [h]
set_option maxRecDepth 100000 in
theorem refShow_any (a : Int) (ha : Fits a) (w : World) : Calls Tryz.prog 42 #[.int .i64 a] w fun e w' => e = .returned (.string ⟨(Lib.itoa a).toArray⟩) ∧ Below w.heap.size w w' := by
 have HS : Hid _ := size_any a ha w
 generalize hm : a.natAbs = m at HS
 have hm64 : m ≤ 9223372036854775808 := by unfold Fits at ha; omega
 have hml := dec_len hm64
 replace hm : Hid _ := hm
 clear ha
 go_enter Tryz.func42,Tryz.ntmps42
 go_wp2_with fail
 refine Calls.mono HS.out ?_
 rintro e w' ⟨rfl,rfl⟩
 clear HS
 go_wp2
 go_loopw [3,4] (fun s n wr => ∃ (t : List UInt8) (r : Nat),s = .string ⟨t.toArray⟩ ∧ n = .int .u64 r ∧ r ≤ m ∧ Shown m t r ∧ Below w'.heap.size w' wr) (fun s n _ => (intOf n).toNat + bare s)
 case atStart => exact ⟨[],m,rfl,rfl,Nat.le_refl _,.inl ⟨rfl,rfl⟩,Below.refl _ _⟩
 case round =>
  obtain ⟨t,r,rfl,rfl,hr,hS,hb⟩ := hrel
  have hlen : t.length ≤ 21 := Nat.le_trans (shown_len hS) hml
  have hc := one_byte wr r
  by_cases hr0 : r = 0
  ·subst hr0
   cases t with
   | nil =>
    have hc0 : (convert 22 9 (.slice (some ⟨wr.heap.size,0,none⟩) 1 1)).run Tryz.prog (wr.alloc (.cells #[.int .u8 48] 5)) = .ok (.string ⟨#[dgt 0]⟩) (wr.alloc (.cells #[.int .u8 48] 5)) := hc
    have hnext : Hid _ := shown_step hS (.inr rfl)
    clear hc hS
    go_wp2
    rw [cat_str]
    go_roundw
    case rel => exact ⟨_,_,rfl,rfl,Nat.zero_le _,hnext.out,hb.alloc hb.size _⟩
    case measure => simp only [intOf,bare_nil,bare_cons]; omega
   | cons x t =>
    have hend : Hid _ := shown_end hS rfl (by simp)
    have hlen' : t.length ≤ 20 := by simpa using hlen
    have hno : ¬ 9223372036854775807 < 1 + (t.length + 1) := by omega
    clear hc hS hlen
    by_cases h0 : a < 0
    ·have g1 : decide (a < 0) = true := by simpa using h0
     go_wp2
     rw [cat_str]
     go_ret
     exact ⟨ret_str (by rw [itoa_neg' hm.out h0,hend.out]),hb⟩
    ·have g1 : decide (a < 0) = false := by simpa using h0
     go_wp2
     go_ret
     exact ⟨ret_str (by rw [itoa_pos' hm.out (by omega),hend.out]),hb⟩
  ·have g1 : decide ((0 : Int) < (r : Int)) = true := by simp; omega
   have g2 : decide (0 < r) = true := by simp; omega
   have hnext : Hid _ := shown_step hS (.inl (by omega))
   clear hS
   go_wp2
   rw [cat_str]
   go_roundw
   case rel => exact ⟨_,r / 10,rfl,by go_num,by omega,hnext.out,hb.alloc hb.size _⟩
   case measure => simp only [intOf,bare_cons]; omega
end Go.Proofs.YtfopfhlohihihaaGreat
namespace Go.Proofs.YtfopfhlohihihaaGreat
open Go.ChangeShapes Go.WideShapes Go.ChangeAt Go.RowKit
set_option linter.unusedVariables false
theorem own : ownKnob Tryz.prog.godebug = none := by kernel_rfl
theorem laidOut : laidOutB Tryz.prog = true := by kernel_rfl
def IsRow (k : IntKind) (w : World) (a : Option Addr) (len cap : Nat) (zs : List Int) : Prop :=
 (a = none ∧ len = 0 ∧ cap = 0 ∧ zs = []) ∨
 ∃ x,a = some x ∧ len ≤ cap ∧ cap ≤ maxLen ∧ zs.length = cap ∧ (∀ i,i < zs.length → w.cell? (x.add i) = some (.int k (zs.getD i 0))) ∧ ∀ n ∈ zs,(Lit.int k n).wf = true
theorem Rd.of_row {k : IntKind} {w : World} {a : Option Addr} {len cap : Nat} {zs : List Int} (h : IsRow k w a len cap zs) : Rd k w a len cap (zs.take len) := by
 rcases h with ⟨rfl,rfl,rfl,rfl⟩ | ⟨x,rfl,hl,hm,hz,hc,hw⟩
 ·exact Rd.nil k w
 ·refine ⟨by simp; omega,hl,hm,fun e => by simp at e,fun hp => ?_⟩
  obtain ⟨b,off,spot⟩ := x
  have h0 := hc 0 (by omega)
  have hspot : spot = none := by simpa [Addr.add] using World.cell?_spot h0
  subst hspot
  refine ⟨b,off,rfl,fun i hi => ?_⟩
  have hi' := hc i (by omega)
  rw [show (⟨b,off,none⟩ : Addr).add i = ⟨b,off + i,none⟩ from by simp [Addr.add]] at hi'
  rw [hi',nth,List.getElem?_take_of_lt hi,List.getD]
theorem row_wf {k : IntKind} {w : World} {a : Option Addr} {len cap : Nat} {zs : List Int} (h : IsRow k w a len cap zs) : ∀ n ∈ zs.take len,(Lit.int k n).wf = true := by
 rcases h with ⟨rfl,rfl,rfl,rfl⟩ | ⟨x,rfl,hl,hm,hz,hc,hw⟩
 ·intro n hn; simp at hn
 ·exact fun n hn => hw n (List.mem_of_mem_take hn)
theorem u8_of_row {w : World} {a : Option Addr} {len cap : Nat} {zs : List Int} (h : IsRow .u8 w a len cap zs) : ∀ x ∈ zs.take len,0 ≤ x ∧ x ≤ 255 :=
 fun x hx => bounds_u8 (row_wf h x hx)
theorem u8_is {a : Int} (h : (Lit.int .u8 a).wf = true) : ∃ x : UInt8,a = (x.toNat : Int) := by
 have := bounds_u8 h
 refine ⟨UInt8.ofNat a.toNat,?_⟩
 rw [UInt8.toNat_ofNat']
 omega
theorem sA {α : Type} (l : List α) (i : Nat) (x : α) : l.toArray.setIfInBounds i x = (l.set i x).toArray := by simp
theorem sB {α : Type} (a b : α) (l : List α) : (a :: l).set 0 b = b :: l := rfl
theorem sC {α : Type} (a b : α) (l : List α) (i : Nat) : (a :: l).set (i + 1) b = a :: l.set i b := rfl
end Go.Proofs.YtfopfhlohihihaaGreat
