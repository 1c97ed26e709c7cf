import Derived.Test.YtljmlacnfnmjbaaGreatTmab
namespace Go.Proofs.YtljmlacnfnmjbaaGreat
open Go.RowKit
set_option linter.unusedVariables false

/-- Picks lie in block g: their row,and how many are taken. -/
structure Pq2 (w : World) (g : Nat) (a : Option Addr) (len cap n : Nat) : Prop where
 row : w.heap[g]? = some (.cells #[.slice a len cap,.int .i64 (n : Int)] 86 (0,0))
theorem Pq2.lt {w : World} {g : Nat} {a : Option Addr} {len cap n : Nat} (h : Pq2 w g a len cap n) : g < w.heap.size := (Array.getElem?_eq_some_iff.1 h.row).1
theorem Pq2.cells {w : World} {g : Nat} {a : Option Addr} {len cap n : Nat} (h : Pq2 w g a len cap n) : w.cell? ⟨g,0,none⟩ = some (.slice a len cap) ∧ w.cell? ⟨g,1,none⟩ = some (.int .i64 n) := by
 unfold World.cell?; rw [h.row]; exact ⟨rfl,rfl⟩
theorem Pq2.free {w : World} {g : Nat} {a : Option Addr} {len cap n : Nat} (h : Pq2 w g a len cap n) : w.frozen? ⟨g,1,none⟩ = false := by
 unfold World.frozen?; rw [h.row]; rfl
theorem Pq2.set {w : World} {g : Nat} {a : Option Addr} {len cap n : Nat} (h : Pq2 w g a len cap n) (m : Nat) : Pq2 (w.setCell ⟨g,1,none⟩ (.int .i64 (m : Int))) g a len cap m := ⟨by simp [World.setCell,Array.getElem?_modify,h.row]⟩
/-- The picks' numbers lie below block g. -/
def Nums (w : World) (g : Nat) (a : Option Addr) (len : Nat) : Prop := 0 < len → ∃ b o,a = some ⟨b,o,none⟩ ∧ b < g ∧ b < w.heap.size ∧ ∀ k,k < len → ∃ z : Int,0 ≤ z ∧ z ≤ 255 ∧ w.cell? ⟨b,o + k,none⟩ = some (.int .u8 z)
theorem Nums.keep {w w' : World} {g : Nat} {a : Option Addr} {len : Nat} (h : Nums w g a len) (hs : w.heap.size ≤ w'.heap.size) (hk : ∀ k,k < g → w'.heap[k]? = w.heap[k]?) : Nums w' g a len := fun hp => by
 obtain ⟨b,o,ha,hb,hl,hz⟩ := h hp
 refine ⟨b,o,ha,hb,by omega,fun k hk' => ?_⟩
 obtain ⟨z,z0,z1,hc⟩ := hz k hk'
 exact ⟨z,z0,z1,(World.cell?_of_block (a := ⟨b,_,none⟩) (hk b hb)).trans hc⟩
/-- Picks lie in block g; r of them are left. -/
structure Pk (w : World) (g r : Nat) : Prop where
 on : ∃ a len cap n,Pq2 w g a len cap n ∧ n + r = len ∧ len ≤ cap ∧ cap ≤ 9223372036854775807 ∧ Nums w g a len
theorem Pk.lt {w : World} {g r : Nat} (h : Pk w g r) : g < w.heap.size := by
 obtain ⟨a,len,cap,n,hq,_⟩ := h.on
 exact hq.lt
theorem Pk.keep {w w' : World} {g r : Nat} (h : Pk w g r) (hs : w.heap.size ≤ w'.heap.size) (hk : ∀ k,k ≤ g → w'.heap[k]? = w.heap[k]?) : Pk w' g r := by
 obtain ⟨a,len,cap,n,hq,h1,h2,h3,h4⟩ := h.on
 exact ⟨a,len,cap,n,⟨(hk g (Nat.le_refl _)).trans hq.row⟩,h1,h2,h3,h4.keep hs fun k hk' => hk k (by omega)⟩
theorem Pk.later {w w' : World} {g r : Nat} (h : Pk w g r) (hb : Below w.heap.size w w') : Pk w' g r := h.keep hb.size fun k hk => hb.block k (Nat.lt_of_le_of_lt hk h.lt)
theorem Pk.alloc {w : World} {g r : Nat} (h : Pk w g r) (o : Obj) : Pk (w.alloc o) g r := h.later ((Below.refl _ _).alloc (Nat.le_refl _) o)
theorem Pk.drewN {w : World} {g r : Nat} (h : Pk w g r) (n : Nat) : Pk (w.drewN n) g r := h.keep (Nat.le_refl _) fun _ _ => rfl
theorem Pk.other {w : World} {g r : Nat} (h : Pk w g r) {b : Nat} (hb : g < b) (o : Nat) (v : Value) : Pk (w.setCell ⟨b,o,none⟩ v) g r :=
 h.keep (by simp [World.setCell]) fun k hk => Below.heap_setCell _ _ _ _ (by show k ≠ b; omega)
theorem Pk.set7 {w : World} {g r : Nat} (h : Pk w g r) {b : Nat} (hb : g < b) (op : Int) (p : Pay) (sl : Value) : Pk (set7 w b op p sl) g r :=
 h.keep (by rw [set7_size]; exact Nat.le_refl _) fun k hk => set7_heap _ _ _ _ _ (by omega)
theorem Pk.set13 {w : World} {g r : Nat} (h : Pk w g r) {b : Nat} (hb : g < b) (s : Sv) : Pk (set13 w b s) g r :=
 h.keep (by simp [YtljmlacnfnmjbaaGreat.set13,World.setCell]) fun k hk => set13_heap _ _ _ (by omega)
/-- How many are left,for a measure. -/
def left (g : Nat) (w : World) : Nat := match w.cell? ⟨g,0,none⟩,w.cell? ⟨g,1,none⟩ with
 | some (.slice _ len _),some (.int _ n) => len - n.toNat
 | _,_ => 0
theorem Pk.left {w : World} {g r : Nat} (h : Pk w g r) : left g w = r := by
 obtain ⟨a,len,cap,n,hq,h1,h2,h3,h4⟩ := h.on
 rw [YtljmlacnfnmjbaaGreat.left,hq.cells.1,hq.cells.2]
 simp
 omega
/-- Fewer are left,if there were some. -/
def Less (r r' : Nat) : Prop := r' ≤ r ∧ (0 < r → r' < r)
theorem Less.on {a b c : Nat} (h : Less a b) (k : c ≤ b) : Less a c := ⟨Nat.le_trans k h.1,fun hp => Nat.lt_of_le_of_lt k (h.2 hp)⟩

set_option maxRecDepth 100000 in
set_option maxHeartbeats 1000000 in
theorem num_any {g r : Nat} {w : World} (h : Pk w g r) (m : Nat) (hm : 0 < m) (hm2 : m ≤ 100) :
  Calls Tryz.prog 39 #[.pointer (some ⟨g,0,none⟩),.int .i64 (m : Int)] w fun e w' => ∃ k r',e = .returned (.int .i64 ((k : Nat) : Int)) ∧ k < m ∧ Less r r' ∧ Pk w' g r' ∧ But g w w' := by
 obtain ⟨a,len,cap,n,hq,h1,h2,h3,h4⟩ := h.on
 obtain ⟨c0,c1⟩ := hq.cells
 have f1 := hq.free
 have hgl := hq.lt
 by_cases hr : r = 0
 ·subst hr
  obtain rfl : n = len := by omega
  have g1 : decide ((n : Int) ≤ (n : Int)) = true := by simp
  have HP : Hid _ := hid h
  clear h h4 h1 hq
  go_enter Tryz.func39,Tryz.ntmps39
  go_wp2
  go_quiet (fail)
  have HQ : Hid _ := hid (HP.out.drewN nq)
  have HB : Hid _ := hid ((But.refl g w).rdrew nq)
  clear HP
  generalize w.drewN nq = W at *
  go_wp2
  go_ret
  exact ⟨0,0,rfl,hm,⟨Nat.le_refl _,fun h => by omega⟩,HQ.out,HB.out⟩
 ·have hlt : n < len := by omega
  have g1 : decide ((len : Int) ≤ (n : Int)) = false := by simp; omega
  obtain ⟨b,o,rfl,hbg,hbl,hz⟩ := h4 (by omega)
  obtain ⟨z,z0,z1,hc⟩ := hz n hlt
  have HP : Hid (Pk (w.setCell ⟨g,1,none⟩ (.int .i64 ((n + 1 : Nat) : Int))) g (r - 1)) := hid ⟨_,len,cap,n + 1,hq.set _,by omega,h2,h3,h4.keep (by simp [World.setCell]) fun k hk => Below.heap_setCell _ _ _ _ (by show k ≠ g; omega)⟩
  have hP2 := hq.set (n + 1)
  obtain ⟨d0,d1⟩ := hP2.cells
  have hc2 : (w.setCell ⟨g,1,none⟩ (.int .i64 ((n + 1 : Nat) : Int))).cell? ⟨b,o + n,none⟩ = some (.int .u8 z) := (World.cell?_of_block (a := ⟨b,_,none⟩) (Below.heap_setCell _ _ _ _ (by show b ≠ g; omega))).trans hc
  have hbe : ((n + 1 : Nat) : Int) = (n : Int) + 1 := by omega
  have hB : But g w (w.setCell ⟨g,1,none⟩ (.int .i64 ((n + 1 : Nat) : Int))) := But.set _ _ _ _
  rw [hbe] at d0 d1 hc2 HP hB
  clear h h4 hq hP2 hz hbe
  go_enter Tryz.func39,Tryz.ntmps39
  go_wp2
  go_quiet (fail)
  obtain ⟨V,hV⟩ : ∃ V,w.drewN nq = V := ⟨_,rfl⟩
  have e0 : V.cell? ⟨g,0,none⟩ = some (.slice (some ⟨b,o,none⟩) len cap) := by rw [← hV]; exact c0
  have e1 : V.cell? ⟨g,1,none⟩ = some (.int .i64 n) := by rw [← hV]; exact c1
  have e2 : V.frozen? ⟨g,1,none⟩ = false := by rw [← hV]; exact f1
  have e3 : V.heap.size = w.heap.size := by rw [← hV]; rfl
  have e4 : (V.setCell ⟨g,1,none⟩ (.int .i64 ((n : Int) + 1))).cell? ⟨b,o + n,none⟩ = some (.int .u8 z) := by rw [← hV]; exact hc2
  have e5 : (V.setCell ⟨g,1,none⟩ (.int .i64 ((n : Int) + 1))).cell? ⟨g,0,none⟩ = some (.slice (some ⟨b,o,none⟩) len cap) := by rw [← hV]; exact d0
  have e6 : (V.setCell ⟨g,1,none⟩ (.int .i64 ((n : Int) + 1))).cell? ⟨g,1,none⟩ = some (.int .i64 ((n : Int) + 1)) := by rw [← hV]; exact d1
  have HQ : Hid (Pk (V.setCell ⟨g,1,none⟩ (.int .i64 ((n : Int) + 1))) g (r - 1)) := hid (by rw [← hV]; exact HP.out.keep (Nat.le_refl _) fun _ _ => rfl)
  have HC : Hid (But g w (V.setCell ⟨g,1,none⟩ (.int .i64 ((n : Int) + 1)))) := hid (by rw [← hV]; exact ⟨hB.os,hB.tape,hB.output,hB.size,hB.block⟩)
  clear c0 c1 f1 d0 d1 hc hc2 HP hB
  rw [hV]
  clear hV
  go_wp2
  obtain ⟨U,hU⟩ : ∃ U,V.setCell ⟨g,1,none⟩ (.int .i64 ((n : Int) + 1)) = U := ⟨_,rfl⟩
  rw [hU] at e4 e5 e6 HQ HC ⊢
  clear hU e0 e1 e2 e3
  go_quiet (fail)
  have HQ2 : Hid _ := hid (HQ.out.drewN nq)
  have HC2 : Hid _ := hid (HC.out.rdrew nq)
  generalize U.drewN nq = T at *
  go_wp2
  go_ret
  have hmi : (0 : Int) < (m : Int) := by omega
  have hz0 : 0 ≤ z % (m : Int) := Int.emod_nonneg _ (by omega)
  have hz1 : z % (m : Int) < (m : Int) := Int.emod_lt_of_pos _ hmi
  refine ⟨(z % (m : Int)).toNat,r - 1,?_,by omega,⟨by omega,fun _ => by omega⟩,HQ2.out,HC2.out⟩
  show Ending.returned (.int .i64 (z % (m : Int))) = _
  rw [Int.toNat_of_nonneg hz0]
/-- A row of texts that was just made. -/
theorem strs_new {g : Nat} {w w1 : World} (cs : Array Value) (hb : But g (w.alloc (.cells cs 9)) w1) (hg : g < w.heap.size) (k : Nat) (hk : k < cs.size) : w1.cell? ⟨w.heap.size,k,none⟩ = some cs[k] := by
 refine hb.cell ?_ (by show w.heap.size ≠ g; omega)
 unfold World.cell?
 rw [heap_alloc_new w _]
 simp [hk]
set_option maxRecDepth 100000 in
set_option maxHeartbeats 1000000 in
theorem view_any {g r : Nat} {w : World} (h : Pk w g r) :
  Calls Tryz.prog 40 #[.pointer (some ⟨g,0,none⟩)] w fun e w' => ∃ s r',e = .returned (.string s) ∧ s ∈ [⟨#[100]⟩,⟨#[101]⟩,⟨#[102]⟩,⟨#[103]⟩] ∧ r' ≤ r ∧ Pk w' g r' ∧ But g w w' := by
 have hgl := h.lt
 have HN : Hid _ := hid (num_any (h.alloc (.cells #[.string ⟨#[100]⟩,.string ⟨#[101]⟩,.string ⟨#[102]⟩,.string ⟨#[103]⟩] 9)) 4 (by decide) (by decide))
 clear h
 go_enter Tryz.func40,Tryz.ntmps40
 go_wp2_with fail
 refine Calls.mono HN.out ?_
 rintro e w1 ⟨k,r',rfl,hk,hl,hp,hb⟩
 have hB : But g w w1 := ((But.refl g w).alloc _).trans hb
 have hc := strs_new _ hb hgl
 have HP : Hid _ := hid hp
 have HB : Hid _ := hid hB
 have HL : Hid _ := hid hl
 have hbl : w.heap.size < w1.heap.size := by have := hb.size; simp at this; omega
 have c0 := hc 0 (by decide)
 have c1 := hc 1 (by decide)
 have c2 := hc 2 (by decide)
 have c3 := hc 3 (by decide)
 simp only [List.getElem_toArray,List.getElem_cons_zero,List.getElem_cons_succ] at c0 c1 c2 c3
 clear hc hp hB hl hb HN
 rcases (show k = 0 ∨ k = 1 ∨ k = 2 ∨ k = 3 by omega) with rfl | rfl | rfl | rfl
 all_goals
  go_wp2
  go_ret
  exact ⟨_,r',rfl,by simp,HL.out.1,HP.out,HB.out⟩

/-- A block of three cells: a value's. -/
structure Bv (w : World) (b : Nat) (k i : Int) (s : ByteArray) : Prop where
 row : w.heap[b]? = some (.cells #[.int .i64 k,.int .i64 i,.string s] 25 (0,0))
theorem Bv.lt {w : World} {b : Nat} {k i : Int} {s : ByteArray} (h : Bv w b k i s) : b < w.heap.size := (Array.getElem?_eq_some_iff.1 h.row).1
theorem Bv.cells {w : World} {b : Nat} {k i : Int} {s : ByteArray} (h : Bv w b k i s) : w.cell? ⟨b,0,none⟩ = some (.int .i64 k) ∧ w.cell? ⟨b,1,none⟩ = some (.int .i64 i) ∧ w.cell? ⟨b,2,none⟩ = some (.string s) := by
 unfold World.cell?; rw [h.row]; exact ⟨rfl,rfl,rfl⟩
theorem Bv.free {w : World} {b : Nat} {k i : Int} {s : ByteArray} (h : Bv w b k i s) : w.frozen? ⟨b,0,none⟩ = false ∧ w.frozen? ⟨b,1,none⟩ = false ∧ w.frozen? ⟨b,2,none⟩ = false := by
 unfold World.frozen?; rw [h.row]; exact ⟨rfl,rfl,rfl⟩
theorem Bv.but {w w' : World} {b g : Nat} {k i : Int} {s : ByteArray} (h : Bv w b k i s) (hb : But g w w') (hg : b ≠ g) : Bv w' b k i s := ⟨(hb.block b h.lt hg).trans h.row⟩
theorem But.new3 {g : Nat} {a w : World} (h : But g a w) {b : Nat} (hb : a.heap.size ≤ b) (x y z : Value) : But g a (((w.setCell ⟨b,0,none⟩ x).setCell ⟨b,1,none⟩ y).setCell ⟨b,2,none⟩ z) := ((h.new hb 0 _).new hb 1 _).new hb 2 _
theorem Pk.new3 {w : World} {g r : Nat} (h : Pk w g r) {b : Nat} (hb : g < b) (x y z : Value) : Pk (((w.setCell ⟨b,0,none⟩ x).setCell ⟨b,1,none⟩ y).setCell ⟨b,2,none⟩ z) g r := ((h.other hb _ _).other hb _ _).other hb _ _
/-- What Value tells. -/
def VaOK (k i : Int) (s : ByteArray) : Prop := (k = 2 ∧ i = 0 ∧ s ∈ [⟨#[97]⟩,⟨#[98]⟩,⟨#[]⟩,⟨#[105,116,39,115]⟩,⟨#[122,122]⟩]) ∨ (k = 1 ∧ s = ⟨#[]⟩ ∧ ((0 ≤ i ∧ i < 11) ∨ i = 9223372036854775807))
set_option maxRecDepth 100000 in
set_option maxHeartbeats 1000000 in
theorem value_any {g r : Nat} {w : World} (h : Pk w g r) (kind : Int) (hk : kind = 1 ∨ kind = 2) :
  Calls Tryz.prog 48 #[.pointer (some ⟨g,0,none⟩),.int .i64 kind] w fun e w' => ∃ i s r',e = .returned (.agg #[.int .i64 kind,.int .i64 i,.string s]) ∧ VaOK kind i s ∧ r' ≤ r ∧ Pk w' g r' ∧ But g w w' := by
 have hgl := h.lt
 have hv : Bv (w.alloc (.cells #[.int .i64 0,.int .i64 0,.string ⟨#[]⟩] 25)) w.heap.size 0 0 ⟨#[]⟩ := ⟨heap_alloc_new w _⟩
 rcases hk with rfl | rfl
 ·have HN : Hid _ := hid (num_any (h.alloc (.cells #[.int .i64 0,.int .i64 0,.string ⟨#[]⟩] 25)) 12 (by decide) (by decide))
  clear h
  go_enter Tryz.func48,Tryz.ntmps48
  go_wp2_with fail
  refine Calls.mono HN.out ?_
  rintro e w1 ⟨k,r',rfl,hk,hl,hp,hb⟩
  have hB : But g w w1 := ((But.refl g w).alloc _).trans hb
  have hv1 := hv.but hb (by omega)
  obtain ⟨c0,c1,c2⟩ := hv1.cells
  obtain ⟨f0,f1,f2⟩ := hv1.free
  have hbl := hv1.lt
  by_cases h11 : k = 11
  ·subst h11
   have HE : Hid _ := hid (hp.new3 (b := w.heap.size) hgl (.int .i64 1) (.int .i64 9223372036854775807) (.string ⟨#[]⟩))
   have HB : Hid _ := hid (hB.new3 (b := w.heap.size) (Nat.le_refl _) (.int .i64 1) (.int .i64 9223372036854775807) (.string ⟨#[]⟩))
   clear hv hv1 hp hB hb HN
   go_wp2
   exact bodyPost_ret (v := .agg #[.int .i64 1,.int .i64 9223372036854775807,.string ⟨#[]⟩]) (by simp [results,Tryz.results48,go_sem,c0,c1,c2]) rfl ⟨_,_,r',rfl,.inr ⟨rfl,rfl,.inr rfl⟩,hl.1,HE.out,HB.out⟩
  ·have g1 : ((k : Int) == 11) = false := by simp; omega
   have HE : Hid _ := hid (hp.new3 (b := w.heap.size) hgl (.int .i64 1) (.int .i64 k) (.string ⟨#[]⟩))
   have HB : Hid _ := hid (hB.new3 (b := w.heap.size) (Nat.le_refl _) (.int .i64 1) (.int .i64 k) (.string ⟨#[]⟩))
   clear hv hv1 hp hB hb HN
   go_wp2
   exact bodyPost_ret (v := .agg #[.int .i64 1,.int .i64 k,.string ⟨#[]⟩]) (by simp [results,Tryz.results48,go_sem,c0,c1,c2]) rfl ⟨_,_,r',rfl,.inr ⟨rfl,rfl,.inl ⟨by omega,by omega⟩⟩,hl.1,HE.out,HB.out⟩
 ·have HN : Hid _ := hid (num_any ((h.alloc (.cells #[.int .i64 0,.int .i64 0,.string ⟨#[]⟩] 25)).alloc (.cells #[.string ⟨#[97]⟩,.string ⟨#[98]⟩,.string ⟨#[]⟩,.string ⟨#[105,116,39,115]⟩,.string ⟨#[122,122]⟩] 9)) 5 (by decide) (by decide))
  clear h
  go_enter Tryz.func48,Tryz.ntmps48
  go_wp2_with fail
  refine Calls.mono HN.out ?_
  rintro e w1 ⟨k,r',rfl,hk,hl,hp,hb⟩
  have hB : But g w w1 := (((But.refl g w).alloc _).alloc _).trans hb
  have hc := strs_new _ hb (by simp; omega)
  have c4 := hc 4 (by decide)
  have c3 := hc 3 (by decide)
  have d0 := hc 0 (by decide)
  have d1 := hc 1 (by decide)
  have d2 := hc 2 (by decide)
  simp only [List.getElem_toArray,List.getElem_cons_zero,List.getElem_cons_succ,World.size_alloc] at d0 d1 d2 c3 c4
  have hv1 := (Bv.mk ((Below.heap_alloc _ _ _ hv.lt).trans hv.row) : Bv ((w.alloc (.cells #[.int .i64 0,.int .i64 0,.string ⟨#[]⟩] 25)).alloc (.cells #[.string ⟨#[97]⟩,.string ⟨#[98]⟩,.string ⟨#[]⟩,.string ⟨#[105,116,39,115]⟩,.string ⟨#[122,122]⟩] 9)) w.heap.size 0 0 ⟨#[]⟩).but hb (by omega)
  obtain ⟨c0,c1,c2⟩ := hv1.cells
  obtain ⟨f0,f1,f2⟩ := hv1.free
  have hbl : w.heap.size + 1 < w1.heap.size := by have := hb.size; simp at this; omega
  have HE : Hid (∀ s,_) := hid fun s => hp.new3 (b := w.heap.size) hgl (.int .i64 2) (.int .i64 0) (.string s)
  have HB : Hid (∀ s,_) := hid fun s => hB.new3 (b := w.heap.size) (Nat.le_refl _) (.int .i64 2) (.int .i64 0) (.string s)
  clear hv hv1 hp hB hb HN hc
  rcases (show k = 0 ∨ k = 1 ∨ k = 2 ∨ k = 3 ∨ k = 4 by omega) with rfl | rfl | rfl | rfl | rfl
  ·go_wp2
   exact bodyPost_ret (v := .agg #[.int .i64 2,.int .i64 0,.string ⟨#[97]⟩]) (by simp [results,Tryz.results48,go_sem,c0,c1,c2]) rfl ⟨_,_,r',rfl,.inl ⟨rfl,rfl,by simp⟩,hl.1,HE.out _,HB.out _⟩
  ·go_wp2
   exact bodyPost_ret (v := .agg #[.int .i64 2,.int .i64 0,.string ⟨#[98]⟩]) (by simp [results,Tryz.results48,go_sem,c0,c1,c2]) rfl ⟨_,_,r',rfl,.inl ⟨rfl,rfl,by simp⟩,hl.1,HE.out _,HB.out _⟩
  ·go_wp2
   exact bodyPost_ret (v := .agg #[.int .i64 2,.int .i64 0,.string ⟨#[]⟩]) (by simp [results,Tryz.results48,go_sem,c0,c1,c2]) rfl ⟨_,_,r',rfl,.inl ⟨rfl,rfl,by simp⟩,hl.1,HE.out _,HB.out _⟩
  ·go_wp2
   exact bodyPost_ret (v := .agg #[.int .i64 2,.int .i64 0,.string ⟨#[105,116,39,115]⟩]) (by simp [results,Tryz.results48,go_sem,c0,c1,c2]) rfl ⟨_,_,r',rfl,.inl ⟨rfl,rfl,by simp⟩,hl.1,HE.out _,HB.out _⟩
  ·go_wp2
   exact bodyPost_ret (v := .agg #[.int .i64 2,.int .i64 0,.string ⟨#[122,122]⟩]) (by simp [results,Tryz.results48,go_sem,c0,c1,c2]) rfl ⟨_,_,r',rfl,.inl ⟨rfl,rfl,by simp⟩,hl.1,HE.out _,HB.out _⟩

set_option maxRecDepth 100000 in
set_option maxHeartbeats 1000000 in
theorem over_any {g r : Nat} {w : World} (h : Pk w g r) :
  Calls Tryz.prog 44 #[.pointer (some ⟨g,0,none⟩)] w fun e w' => e = .returned (.bool (decide (r = 0))) ∧ Pk w' g r ∧ But g w w' := by
 obtain ⟨a,len,cap,n,hq,h1,h2,h3,h4⟩ := h.on
 obtain ⟨c0,c1⟩ := hq.cells
 have hgl := hq.lt
 have HP : Hid _ := hid h
 have HD : Hid (decide (r = 0) = decide (len ≤ n)) := hid (by by_cases hr : r = 0 <;> simp [hr] <;> omega)
 clear h h4 hq
 generalize decide (r = 0) = D at *
 go_enter Tryz.func44,Tryz.ntmps44
 go_wp2
 go_quiet (fail)
 have HQ : Hid _ := hid (HP.out.drewN nq)
 have HB : Hid _ := hid ((But.refl g w).rdrew nq)
 clear HP
 generalize w.drewN nq = W at *
 go_wp2
 go_ret
 exact ⟨by rw [HD.out]; rfl,HQ.out,HB.out⟩

set_option maxRecDepth 100000 in
set_option maxHeartbeats 1000000 in
theorem lit_any (k i : Int) (s : ByteArray) (w : World) :
  Calls Tryz.prog 47 #[.agg #[.int .i64 k,.int .i64 i,.string s]] w fun e w' => e = .returned (exV 1 (k,i,s,⟨#[]⟩,⟨#[]⟩) (.slice none 0 0)) ∧ Below w.heap.size w w' := by
 unfold exV
 go_enter Tryz.func47,Tryz.ntmps47
 go_wp2
 refine bodyPost_ret (v := exV 1 (k,i,s,⟨#[]⟩,⟨#[]⟩) (.slice none 0 0)) (by simp [results,Tryz.results47,go_sem,exV]) rfl ⟨rfl,?_⟩
 exact bal (bal (Below.refl _ _) _) _

set_option maxRecDepth 100000 in
set_option maxHeartbeats 1000000 in
theorem playTwo_any (op : Int) (o1 : Int) (p1 : Pay) (s1 : Value) (o2 : Int) (p2 : Pay) (s2 : Value) (w : World) :
  Calls Tryz.prog 45 #[.int .i64 op,exV o1 p1 s1,exV o2 p2 s2] w fun e w' => ∃ b,e = .returned (exV op nilP (.slice (some ⟨b,0,none⟩) 2 2)) ∧ w.heap.size ≤ b ∧ Below w.heap.size w w' ∧ Ce w' b 0 o1 p1 s1 ∧ Ce w' b 7 o2 p2 s2 := by
 obtain ⟨k1,i1,t1,b1,m1⟩ := p1
 obtain ⟨k2,i2,t2,b2,m2⟩ := p2
 unfold exV
 go_enter Tryz.func45,Tryz.ntmps45
 go_wp2
 refine bodyPost_ret (v := exV op nilP (.slice (some ⟨w.heap.size + 3,0,none⟩) 2 2)) (by simp [results,Tryz.results45,go_sem,exV,nilP]) rfl ⟨w.heap.size + 3,rfl,by omega,?_,?_,?_⟩
 ·exact bal (bal (bal (bal (Below.refl _ _) _) _) _) _
 ·unfold Ce
  simp [go_sem]
 ·unfold Ce
  simp [go_sem]

/-- Columns,each with its kind. -/
abbrev Cl2 := List (It × Int)
def eInt : Ek Int := ⟨1,fun _ _ z cs => cs = [.int .i64 z],fun _ h => h,fun _ h => h⟩
theorem RowIs.item1 {Q : Nat → Prop} {w : World} {a : Option Addr} {n c : Nat} {l : List It} (h : RowIs eItem Q w (.slice a n c) l) {k : Nat} (hk : k < l.length) : ∃ b o,a = some ⟨b,o,none⟩ ∧ Q b ∧ w.cell? ⟨b,o + k * 3,none⟩ = some (.int .i64 l[k].1) ∧ w.cell? ⟨b,o + k * 3 + 1,none⟩ = some (.string l[k].2.1) ∧ w.cell? ⟨b,o + k * 3 + 2,none⟩ = some (.string l[k].2.2) := by
 obtain ⟨ao,n',c',hv,hl,hn,hc,hx⟩ := h
 cases hv
 obtain ⟨b,o,ha,hq,hi⟩ := hx (by omega)
 obtain ⟨cs,hcs,_,hc⟩ := hi k hk
 have hcs' : cs = [.int .i64 l[k].1,.string l[k].2.1,.string l[k].2.2] := hcs
 subst hcs'
 exact ⟨b,o,ha,hq,hc 0 (show 0 < 3 by decide),hc 1 (show 1 < 3 by decide),hc 2 (show 2 < 3 by decide)⟩
theorem RowIs.int1 {Q : Nat → Prop} {w : World} {a : Option Addr} {n c : Nat} {l : List Int} (h : RowIs eInt Q w (.slice a n c) l) {k : Nat} (hk : k < l.length) : ∃ b o,a = some ⟨b,o,none⟩ ∧ Q b ∧ w.cell? ⟨b,o + k,none⟩ = some (.int .i64 l[k]) := by
 obtain ⟨ao,n',c',hv,hl,hn,hc,hx⟩ := h
 cases hv
 obtain ⟨b,o,ha,hq,hi⟩ := hx (by omega)
 obtain ⟨cs,hcs,_,hc⟩ := hi k hk
 have hcs' : cs = [.int .i64 l[k]] := hcs
 subst hcs'
 have := hc 0 (show 0 < 1 by decide)
 rw [show o + k * eInt.k + 0 = o + k from by show o + k * 1 + 0 = o + k; omega] at this
 exact ⟨b,o,ha,hq,this⟩
/-- How often a name is a column's. -/
def cnt (C : Cl2) (nm : ByteArray) : Nat := (C.filter fun x => decide (x.1.2.2 = nm)).length
theorem cnt_step {C : Cl2} {nm : ByteArray} {k : Nat} (hk : k < C.length) : cnt (C.take (k + 1)) nm = cnt (C.take k) nm + if C[k].1.2.2 = nm then 1 else 0 := by
 rw [cnt,cnt,List.take_succ_eq_append_getElem hk,List.filter_append,List.length_append]
 congr 1
 by_cases h : C[k].1.2.2 = nm <;> simp [h]
theorem cnt_le (C : Cl2) (nm : ByteArray) : cnt C nm ≤ C.length := List.length_filter_le _ _

set_option maxRecDepth 100000 in
set_option maxHeartbeats 2000000 in
theorem once_any {Q : Nat → Prop} {w : World} {a : Option Addr} {n c : Nat} {C : Cl2} (h : RowIs eItem Q w (.slice a n c) (C.map Prod.fst)) (hn : C.length ≤ 100) (nm : ByteArray) :
  Calls Tryz.prog 77 #[.slice a n c,.string nm] w fun e w' => e = .returned (.bool (decide (cnt C nm = 1))) ∧ w' = w := by
 have hlen : n = C.length := by obtain ⟨ao,n',c',hv,hl,_⟩ := h; cases hv; rw [← hl,List.length_map]
 have HK : Hid (∀ k (hk : k < n),∃ b o x,a = some ⟨b,o,none⟩ ∧ b < w.heap.size ∧ w.cell? ⟨b,o + k * 3 + 2,none⟩ = some (.string x) ∧ cnt (C.take (k + 1)) nm = cnt (C.take k) nm + if x = nm then 1 else 0) := hid fun k hk => by
  have hk' : k < (C.map Prod.fst).length := by rw [List.length_map]; omega
  obtain ⟨b,o,ha,_,_,_,h2⟩ := h.item1 hk'
  refine ⟨b,o,_,ha,World.block_lt_of_cell? _ _ h2,h2,?_⟩
  rw [cnt_step (by omega : k < C.length)]
  simp
 have HD : Hid (decide (cnt C nm = 1) = decide (((cnt (C.take n) nm : Nat) : Int) = 1)) := hid (by rw [List.take_of_length_le (by omega)]; by_cases hc : cnt C nm = 1 <;> simp [hc]; omega)
 have HL : Hid (∀ k,cnt (C.take k) nm ≤ 100) := hid fun k => by have := cnt_le (C.take k) nm; have := List.length_take_le k C; rw [List.length_take] at *; omega
 generalize decide (cnt C nm = 1) = D at *
 clear h
 go_enter Tryz.func77,Tryz.ntmps77
 go_wp2
 go_loop [5,6] (fun x i => ∃ k m : Nat,k ≤ n ∧ i = .int .i64 k ∧ x = .int .i64 m ∧ m ≤ 100 ∧ Hid (m = cnt (C.take k) nm)) (fun _ i => n - (intOf i).toNat)
 case atStart => exact ⟨0,0,Nat.zero_le _,rfl,rfl,by omega,hid rfl⟩
 case round =>
  obtain ⟨k,m,hk,rfl,rfl,hm,HM⟩ := hrel
  by_cases hlt : k < n
  ·obtain ⟨b,o,x,rfl,hbl,hc,hst⟩ := HK.out k hlt
   have hs : (x.toList == nm.toList) = eqS x nm := same_str x nm
   have HL2 := HL.out (k + 1)
   rw [hst,← HM.out] at HL2
   by_cases hx : x = nm
   ·subst hx
    have he : eqS x x = true := by simp [eqS]
    have HS : Hid _ := hid hst
    rw [if_pos rfl] at HS HL2
    rw [he] at hs
    clear hst HK HL HD
    go_wp2
    go_round
    case rel => exact ⟨k + 1,m + 1,by omega,by go_num,by go_num,by omega,hid (by rw [HS.out,HM.out])⟩
    case measure => simp only [intOf]; omega
   ·have he : eqS x nm = false := by
     cases hc : eqS x nm with
     | false => rfl
     | true => exact absurd (by simpa [eqS] using hc) hx
    have HS : Hid _ := hid hst
    rw [if_neg hx] at HS
    rw [he] at hs
    clear hst HK HL HD HL2
    go_wp2
    go_round
    case rel => exact ⟨k + 1,m,by omega,by go_num,rfl,by omega,hid (by rw [HS.out,HM.out]; rfl)⟩
    case measure => simp only [intOf]; omega
  ·obtain rfl : k = n := by omega
   have hD := HD.out
   rw [← HM.out] at hD
   clear HD HK HL HM
   go_wp2
   go_ret
   exact ⟨rfl,rfl⟩
end Go.Proofs.YtljmlacnfnmjbaaGreat
namespace Go.Proofs.YtljmlacnfnmjbaaGreat
open Go.RowKit
set_option linter.unusedVariables false

/-- The number that Num picks next,below m. -/
def nxP (w : World) (g m : Nat) : Nat := match w.cell? ⟨g,0,none⟩,w.cell? ⟨g,1,none⟩ with
 | some (.slice (some a) len _),some (.int _ n) => if (len : Int) ≤ n then 0 else (match w.cell? ⟨a.block,a.off + n.toNat,none⟩ with | some (.int _ z) => (z % (m : Int)).toNat | _ => 0)
 | _,_ => 0
theorem nxP_zero {w : World} {g m : Nat} {a : Option Addr} {n cap : Nat} (c0 : w.cell? ⟨g,0,none⟩ = some (.slice a n cap)) (c1 : w.cell? ⟨g,1,none⟩ = some (.int .i64 n)) : nxP w g m = 0 := by
 unfold nxP
 rw [c0,c1]
 cases a with
 | none => rfl
 | some a => show (if (n : Int) ≤ (n : Int) then 0 else _) = 0; rw [if_pos (Int.le_refl _)]
theorem nxP_some {w : World} {g m : Nat} {b o len n cap : Nat} {z : Int} (c0 : w.cell? ⟨g,0,none⟩ = some (.slice (some ⟨b,o,none⟩) len cap)) (c1 : w.cell? ⟨g,1,none⟩ = some (.int .i64 n)) (h : n < len) (hc : w.cell? ⟨b,o + n,none⟩ = some (.int .u8 z)) : nxP w g m = (z % (m : Int)).toNat := by
 unfold nxP
 rw [c0,c1]
 show (if (len : Int) ≤ (n : Int) then 0 else (match w.cell? ⟨b,o + ((n : Nat) : Int).toNat,none⟩ with | some (.int _ z) => (z % (m : Int)).toNat | _ => 0)) = _
 rw [if_neg (by omega),Int.toNat_natCast,hc]

set_option maxRecDepth 100000 in
set_option maxHeartbeats 1000000 in
theorem num_exact {g r : Nat} {w : World} (h : Pk w g r) (m : Nat) (hm : 0 < m) (hm2 : m ≤ 100) :
  Calls Tryz.prog 39 #[.pointer (some ⟨g,0,none⟩),.int .i64 (m : Int)] w fun e w' => ∃ r',e = .returned (.int .i64 ((nxP w g m : Nat) : Int)) ∧ nxP w g m < m ∧ Less r r' ∧ Pk w' g r' ∧ But g w w' := by
 obtain ⟨a,len,cap,n,hq,h1,h2,h3,h4⟩ := h.on
 obtain ⟨c0,c1⟩ := hq.cells
 have f1 := hq.free
 have hgl := hq.lt
 by_cases hr : r = 0
 ·subst hr
  obtain rfl : n = len := by omega
  have g1 : decide ((n : Int) ≤ (n : Int)) = true := by simp
  have HP : Hid _ := hid h
  have HX : Hid (nxP w g m = 0) := hid (nxP_zero c0 c1)
  clear h h4 h1 hq
  go_enter Tryz.func39,Tryz.ntmps39
  go_wp2
  go_quiet (fail)
  have HQ : Hid _ := hid (HP.out.drewN nq)
  have HB : Hid _ := hid ((But.refl g w).rdrew nq)
  clear HP
  generalize w.drewN nq = W at *
  go_wp2
  go_ret
  exact ⟨0,by rw [HX.out]; rfl,by rw [HX.out]; exact hm,⟨Nat.le_refl _,fun h => by omega⟩,HQ.out,HB.out⟩
 ·have hlt : n < len := by omega
  have g1 : decide ((len : Int) ≤ (n : Int)) = false := by simp; omega
  obtain ⟨b,o,rfl,hbg,hbl,hz⟩ := h4 (by omega)
  obtain ⟨z,z0,z1,hc⟩ := hz n hlt
  have HX : Hid (nxP w g m = (z % (m : Int)).toNat) := hid (nxP_some c0 c1 hlt hc)
  have HP : Hid (Pk (w.setCell ⟨g,1,none⟩ (.int .i64 ((n + 1 : Nat) : Int))) g (r - 1)) := hid ⟨_,len,cap,n + 1,hq.set _,by omega,h2,h3,h4.keep (by simp [World.setCell]) fun k hk => Below.heap_setCell _ _ _ _ (by show k ≠ g; omega)⟩
  have hP2 := hq.set (n + 1)
  obtain ⟨d0,d1⟩ := hP2.cells
  have hc2 : (w.setCell ⟨g,1,none⟩ (.int .i64 ((n + 1 : Nat) : Int))).cell? ⟨b,o + n,none⟩ = some (.int .u8 z) := (World.cell?_of_block (a := ⟨b,_,none⟩) (Below.heap_setCell _ _ _ _ (by show b ≠ g; omega))).trans hc
  have hbe : ((n + 1 : Nat) : Int) = (n : Int) + 1 := by omega
  have hB : But g w (w.setCell ⟨g,1,none⟩ (.int .i64 ((n + 1 : Nat) : Int))) := But.set _ _ _ _
  rw [hbe] at d0 d1 hc2 HP hB
  clear h h4 hq hP2 hz hbe
  go_enter Tryz.func39,Tryz.ntmps39
  go_wp2
  go_quiet (fail)
  obtain ⟨V,hV⟩ : ∃ V,w.drewN nq = V := ⟨_,rfl⟩
  have e0 : V.cell? ⟨g,0,none⟩ = some (.slice (some ⟨b,o,none⟩) len cap) := by rw [← hV]; exact c0
  have e1 : V.cell? ⟨g,1,none⟩ = some (.int .i64 n) := by rw [← hV]; exact c1
  have e2 : V.frozen? ⟨g,1,none⟩ = false := by rw [← hV]; exact f1
  have e3 : V.heap.size = w.heap.size := by rw [← hV]; rfl
  have e4 : (V.setCell ⟨g,1,none⟩ (.int .i64 ((n : Int) + 1))).cell? ⟨b,o + n,none⟩ = some (.int .u8 z) := by rw [← hV]; exact hc2
  have e5 : (V.setCell ⟨g,1,none⟩ (.int .i64 ((n : Int) + 1))).cell? ⟨g,0,none⟩ = some (.slice (some ⟨b,o,none⟩) len cap) := by rw [← hV]; exact d0
  have e6 : (V.setCell ⟨g,1,none⟩ (.int .i64 ((n : Int) + 1))).cell? ⟨g,1,none⟩ = some (.int .i64 ((n : Int) + 1)) := by rw [← hV]; exact d1
  have HQ : Hid (Pk (V.setCell ⟨g,1,none⟩ (.int .i64 ((n : Int) + 1))) g (r - 1)) := hid (by rw [← hV]; exact HP.out.keep (Nat.le_refl _) fun _ _ => rfl)
  have HC : Hid (But g w (V.setCell ⟨g,1,none⟩ (.int .i64 ((n : Int) + 1)))) := hid (by rw [← hV]; exact ⟨hB.os,hB.tape,hB.output,hB.size,hB.block⟩)
  clear c0 c1 f1 d0 d1 hc hc2 HP hB
  rw [hV]
  clear hV
  go_wp2
  obtain ⟨U,hU⟩ : ∃ U,V.setCell ⟨g,1,none⟩ (.int .i64 ((n : Int) + 1)) = U := ⟨_,rfl⟩
  rw [hU] at e4 e5 e6 HQ HC ⊢
  clear hU e0 e1 e2 e3
  go_quiet (fail)
  have HQ2 : Hid _ := hid (HQ.out.drewN nq)
  have HC2 : Hid _ := hid (HC.out.rdrew nq)
  generalize U.drewN nq = T at *
  go_wp2
  go_ret
  have hmi : (0 : Int) < (m : Int) := by omega
  have hz0 : 0 ≤ z % (m : Int) := Int.emod_nonneg _ (by omega)
  have hz1 : z % (m : Int) < (m : Int) := Int.emod_lt_of_pos _ hmi
  refine ⟨r - 1,?_,by rw [HX.out]; omega,⟨by omega,fun _ => by omega⟩,HQ2.out,HC2.out⟩
  show Ending.returned (.int .i64 (z % (m : Int))) = _
  rw [HX.out,Int.toNat_of_nonneg hz0]

end Go.Proofs.YtljmlacnfnmjbaaGreat
