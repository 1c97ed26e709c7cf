import Derived.Test.YtljmlacnfnmjbaaGreatTmat
namespace Go.Proofs.YtljmlacnfnmjbaaGreat
open Go.RowKit
set_option linter.unusedVariables false
set_option linter.unusedSimpArgs false

theorem clm_one (S : List Cl3) (tb nm : ByteArray) : ((S.filter (clmIs tb nm)).length = 1 ∧ ∃ c,S.filter (clmIs tb nm) = [c] ∧ clmK S tb nm = (c.2.2,0)) ∨ ((S.filter (clmIs tb nm)).length ≠ 1 ∧ clmK S tb nm = (0,10)) := by
 unfold clmK
 match S.filter (clmIs tb nm) with
 | [] => exact .inr ⟨by simp,rfl⟩
 | [c] => exact .inl ⟨rfl,c,rfl,rfl⟩
 | a :: b :: r => exact .inr ⟨by simp,rfl⟩
set_option maxRecDepth 100000 in
set_option maxHeartbeats 2000000 in
theorem columnK_any {S : List Cl3} (hlen : S.length ≤ 500) (tb nm : ByteArray) {Q : Nat → Prop} {w : World} {ao : Option Addr} {n c : Nat} (h : RowIs eClm Q w (.slice ao n c) S) :
  Calls Tryz.prog 52 #[.slice ao n c,.string tb,.string nm] w fun en w' => en = .returned (.tuple #[.int .i64 (clmK S tb nm).1,.int .i64 (clmK S tb nm).2]) ∧ Below w.heap.size w w' := by
 have hw := bal (bal (Below.refl w.heap.size w) (.cells #[.string tb] 9)) (.cells #[.string nm] 9)
 have h1 := cell_new (w.alloc (.cells #[.string tb] 9)) #[.string nm] 9 (0,0) 0
 have h2 := cell_later (bal (Below.refl _ _) (.cells #[.string nm] 9)) (cell_new w #[.string tb] 9 (0,0) 0)
 simp only [List.getElem?_toArray,List.getElem?_cons_zero,World.size_alloc] at h1 h2
 have HS : SuchZ eClm (clmIs tb nm) ((w.alloc (.cells #[.string tb] 9)).alloc (.cells #[.string nm] 9)) (.func (.func 79) #[] #[.pointer (some ⟨w.heap.size + 1,0,none⟩),.pointer (some ⟨w.heap.size,0,none⟩)]) :=
  ⟨_,_,rfl,fun args w' => by rfl,fun x Q cs w' hb hx => by
   have hx' : cs = [.string x.1,.string x.2.1,.int .i64 x.2.2] := hx
   subst hx'
   exact column1_any tb nm x (cell_later hb h1) (cell_later hb h2)⟩
 have HC : Hid _ := hid (suchCm hlen (h.keep (by decide) fun b _ hl => hw.block b hl) HS)
 have HK := clm_one S tb nm
 clear h h1 h2 HS
 generalize S.filter (clmIs tb nm) = L at *
 obtain ⟨K,hK⟩ : ∃ K,clmK S tb nm = K := ⟨_,rfl⟩
 rw [hK] at HK ⊢
 clear hK
 rcases HK with ⟨hl,x,rfl,rfl⟩ | ⟨hl,rfl⟩
 ·obtain ⟨x1,x2,x3⟩ := x
  go_enter Tryz.func52,Tryz.ntmps52
  go_wp2_with fail
  refine Calls.mono HC.out ?_
  rintro e w4 ⟨a,m,d,rfl,rfl,hb4,hr⟩
  have hB4 := Below.on hw hb4
  obtain ⟨_,_,_,e',_,hmd,hd,hx⟩ := hr
  cases e'
  obtain ⟨b,o,rfl,-,hi⟩ := hx (by simp)
  obtain ⟨cs,hE,-,hc⟩ := hi 0 (by simp)
  have hE' : cs = [.string x1,.string x2,.int .i64 x3] := hE
  subst hE'
  have c2 : w4.cell? ⟨b,o + 2,none⟩ = some (.int .i64 x3) := by
   have := hc 2 (show 2 < 3 by decide)
   simpa [eClm] using this
  clear hE hc hi hx HC hb4
  simp only [List.length_cons,List.length_nil,Nat.zero_add] at *
  go_wp2
  refine bodyPost_ret (v := .tuple #[.int .i64 x3,.int .i64 0]) (by simp [results,Tryz.results52]) rfl ⟨rfl,hB4⟩
 ·go_enter Tryz.func52,Tryz.ntmps52
  go_wp2_with fail
  refine Calls.mono HC.out ?_
  rintro e w4 ⟨a,m,d,rfl,hm,hb4,hr⟩
  have hm1 : (m : Int) ≠ 1 := by omega
  have hm2 : ((m : Int) != 1) = true := by simpa using hm1
  have hm3 : decide ((m : Int) = 1) = false := by simpa using hm1
  have hB4 := Below.on hw hb4
  obtain ⟨_,_,_,e',_,hmd,hd,-⟩ := hr
  cases e'
  clear HC hm hb4
  go_wp2
  refine bodyPost_ret (v := .tuple #[.int .i64 0,.int .i64 10]) (by simp [results,Tryz.results52]) rfl ⟨rfl,hB4⟩

/-- What a call that tells a way tells. -/
def TeWy (w : World) (r : Option (Int × List Int × Int)) (en : Ending) (w' : World) : Prop :=
 ∃ u ao n c v is,en = .returned (.tuple #[.agg #[.int .i64 u,.slice ao n c,.int .i64 v],.bool is]) ∧ Below w.heap.size w w' ∧ ((r = none ∧ is = false ∧ n ≤ c ∧ c ≤ 9223372036854775807) ∨ ∃ f,r = some (u,f,v) ∧ is = true ∧ f.length ≤ 2 ∧ RowIs eInt (fun _ => True) w' (.slice ao n c) f)
theorem TeWy.zero {w w' : World} (hb : Below w.heap.size w w') : TeWy w (some (0,[],0)) (.returned (.tuple #[.agg #[.int .i64 0,.slice none 0 0,.int .i64 0],.bool true])) w' :=
 ⟨_,_,_,_,_,_,rfl,hb,.inr ⟨[],rfl,rfl,by simp,RowIs.nil _ _ _⟩⟩
theorem TeWy.none {w w' : World} (hb : Below w.heap.size w w') : TeWy w .none (.returned (.tuple #[.agg #[.int .i64 0,.slice .none 0 0,.int .i64 0],.bool false])) w' :=
 ⟨_,_,_,_,_,_,rfl,hb,.inl ⟨rfl,rfl,by omega,by omega⟩⟩
theorem TeWy.one {w w' : World} {b : Nat} {u k v : Int} (hb : Below w.heap.size w w') (hc : w'.cell? ⟨b,0,.none⟩ = some (.int .i64 k)) : TeWy w (some (u,[k],v)) (.returned (.tuple #[.agg #[.int .i64 u,.slice (some ⟨b,0,.none⟩) 1 1,.int .i64 v],.bool true])) w' :=
 ⟨_,_,_,_,_,_,rfl,hb,.inr ⟨[k],rfl,rfl,by simp,⟨_,1,1,rfl,rfl,Nat.le_refl _,by omega,fun _ => ⟨b,0,rfl,trivial,fun i hi => by
  have hi' : i < 1 := hi
  match i,hi' with
  | 0,_ =>
   refine ⟨_,rfl,rfl,fun j hj => ?_⟩
   have hj' : j < 1 := hj
   match j,hj' with
   | 0,_ => exact hc⟩⟩⟩⟩
theorem TeWy.two {w w' : World} {b : Nat} {u k m v : Int} (hb : Below w.heap.size w w') (hc : w'.cell? ⟨b,0,.none⟩ = some (.int .i64 k)) (hd : w'.cell? ⟨b,1,.none⟩ = some (.int .i64 m)) : TeWy w (some (u,[k,m],v)) (.returned (.tuple #[.agg #[.int .i64 u,.slice (some ⟨b,0,.none⟩) 2 2,.int .i64 v],.bool true])) w' :=
 ⟨_,_,_,_,_,_,rfl,hb,.inr ⟨[k,m],rfl,rfl,by simp,⟨_,2,2,rfl,rfl,Nat.le_refl _,by omega,fun _ => ⟨b,0,rfl,trivial,fun i hi => by
  have hi' : i < 2 := hi
  match i,hi' with
  | 0,_ =>
   refine ⟨_,rfl,rfl,fun j hj => ?_⟩
   have hj' : j < 1 := hj
   match j,hj' with
   | 0,_ => exact hc
  | 1,_ =>
   refine ⟨_,rfl,rfl,fun j hj => ?_⟩
   have hj' : j < 1 := hj
   match j,hj' with
   | 0,_ => exact hd⟩⟩⟩⟩

set_option maxRecDepth 100000 in
set_option maxHeartbeats 4000000 in
theorem wayOf_any (op : Int) (w : World) : Calls Tryz.prog 51 #[.int .i64 op] w (TeWy w (wayA op)) := by
 have hw := bal (Below.refl w.heap.size w) (.cells #[.int .i64 0,.slice none 0 0,.int .i64 0] 103)
 by_cases h1 : op = 1
 ·subst h1
  rw [show wayA 1 = some (0,[],0) from rfl]
  go_enter Tryz.func51,Tryz.ntmps51
  go_wp2
  refine bodyPost_ret (v := .tuple #[.agg #[.int .i64 0,.slice none 0 0,.int .i64 0],.bool true]) (by simp [results,Tryz.results51,go_sem]) rfl (TeWy.zero ?_)
  first | exact hw | exact hw.setCell (Nat.le_refl _) _ | exact ((hw.setCell (Nat.le_refl _) _).setCell (Nat.le_refl _) _).setCell (Nat.le_refl _) _
 by_cases h2 : op = 2
 ·subst h2
  rw [show wayA 2 = some (0,[],0) from rfl]
  go_enter Tryz.func51,Tryz.ntmps51
  go_wp2
  refine bodyPost_ret (v := .tuple #[.agg #[.int .i64 0,.slice none 0 0,.int .i64 0],.bool true]) (by simp [results,Tryz.results51,go_sem]) rfl (TeWy.zero ?_)
  first | exact hw | exact hw.setCell (Nat.le_refl _) _ | exact ((hw.setCell (Nat.le_refl _) _).setCell (Nat.le_refl _) _).setCell (Nat.le_refl _) _
 by_cases h3 : op = 3
 ·subst h3
  rw [show wayA 3 = some (1,[1],1) from rfl]
  go_enter Tryz.func51,Tryz.ntmps51
  go_wp2
  refine bodyPost_ret (v := .tuple #[.agg #[.int .i64 1,.slice (some ⟨w.heap.size + 1,0,none⟩) 1 1,.int .i64 1],.bool true]) (by simp [results,Tryz.results51,go_sem]) rfl (TeWy.one ?_ ?_)
  ·first | exact bal hw _ | exact bal (bal (Below.refl _ _) _) _
  ·simp [go_sem]
 by_cases h4 : op = 4
 ·subst h4
  rw [show wayA 4 = some (1,[3],3) from rfl]
  go_enter Tryz.func51,Tryz.ntmps51
  go_wp2
  refine bodyPost_ret (v := .tuple #[.agg #[.int .i64 1,.slice (some ⟨w.heap.size + 1,0,none⟩) 1 1,.int .i64 3],.bool true]) (by simp [results,Tryz.results51,go_sem]) rfl (TeWy.one ?_ ?_)
  ·first | exact bal hw _ | exact bal (bal (Below.refl _ _) _) _
  ·simp [go_sem]
 by_cases h5 : op = 5
 ·subst h5
  rw [show wayA 5 = some (2,[1],1) from rfl]
  go_enter Tryz.func51,Tryz.ntmps51
  go_wp2
  refine bodyPost_ret (v := .tuple #[.agg #[.int .i64 2,.slice (some ⟨w.heap.size + 1,0,none⟩) 1 1,.int .i64 1],.bool true]) (by simp [results,Tryz.results51,go_sem]) rfl (TeWy.one ?_ ?_)
  ·first | exact bal hw _ | exact bal (bal (Below.refl _ _) _) _
  ·simp [go_sem]
 by_cases h6 : op = 6
 ·subst h6
  rw [show wayA 6 = some (2,[1],1) from rfl]
  go_enter Tryz.func51,Tryz.ntmps51
  go_wp2
  refine bodyPost_ret (v := .tuple #[.agg #[.int .i64 2,.slice (some ⟨w.heap.size + 1,0,none⟩) 1 1,.int .i64 1],.bool true]) (by simp [results,Tryz.results51,go_sem]) rfl (TeWy.one ?_ ?_)
  ·first | exact bal hw _ | exact bal (bal (Below.refl _ _) _) _
  ·simp [go_sem]
 by_cases h7 : op = 7
 ·subst h7
  rw [show wayA 7 = some (2,[1],1) from rfl]
  go_enter Tryz.func51,Tryz.ntmps51
  go_wp2
  refine bodyPost_ret (v := .tuple #[.agg #[.int .i64 2,.slice (some ⟨w.heap.size + 1,0,none⟩) 1 1,.int .i64 1],.bool true]) (by simp [results,Tryz.results51,go_sem]) rfl (TeWy.one ?_ ?_)
  ·first | exact bal hw _ | exact bal (bal (Below.refl _ _) _) _
  ·simp [go_sem]
 by_cases h8 : op = 8
 ·subst h8
  rw [show wayA 8 = some (2,[1,2],3) from rfl]
  go_enter Tryz.func51,Tryz.ntmps51
  go_wp2
  refine bodyPost_ret (v := .tuple #[.agg #[.int .i64 2,.slice (some ⟨w.heap.size + 1,0,none⟩) 2 2,.int .i64 3],.bool true]) (by simp [results,Tryz.results51,go_sem]) rfl (TeWy.two ?_ ?_ ?_)
  ·first | exact bal hw _ | exact bal (bal (Below.refl _ _) _) _
  ·simp [go_sem]
  ·simp [go_sem]
 by_cases h9 : op = 9
 ·subst h9
  rw [show wayA 9 = some (2,[1,2],3) from rfl]
  go_enter Tryz.func51,Tryz.ntmps51
  go_wp2
  refine bodyPost_ret (v := .tuple #[.agg #[.int .i64 2,.slice (some ⟨w.heap.size + 1,0,none⟩) 2 2,.int .i64 3],.bool true]) (by simp [results,Tryz.results51,go_sem]) rfl (TeWy.two ?_ ?_ ?_)
  ·first | exact bal hw _ | exact bal (bal (Below.refl _ _) _) _
  ·simp [go_sem]
  ·simp [go_sem]
 by_cases h10 : op = 10
 ·subst h10
  rw [show wayA 10 = some (2,[1,2],3) from rfl]
  go_enter Tryz.func51,Tryz.ntmps51
  go_wp2
  refine bodyPost_ret (v := .tuple #[.agg #[.int .i64 2,.slice (some ⟨w.heap.size + 1,0,none⟩) 2 2,.int .i64 3],.bool true]) (by simp [results,Tryz.results51,go_sem]) rfl (TeWy.two ?_ ?_ ?_)
  ·first | exact bal hw _ | exact bal (bal (Below.refl _ _) _) _
  ·simp [go_sem]
  ·simp [go_sem]
 by_cases h11 : op = 11
 ·subst h11
  rw [show wayA 11 = some (2,[1,2],3) from rfl]
  go_enter Tryz.func51,Tryz.ntmps51
  go_wp2
  refine bodyPost_ret (v := .tuple #[.agg #[.int .i64 2,.slice (some ⟨w.heap.size + 1,0,none⟩) 2 2,.int .i64 3],.bool true]) (by simp [results,Tryz.results51,go_sem]) rfl (TeWy.two ?_ ?_ ?_)
  ·first | exact bal hw _ | exact bal (bal (Below.refl _ _) _) _
  ·simp [go_sem]
  ·simp [go_sem]
 by_cases h12 : op = 12
 ·subst h12
  rw [show wayA 12 = some (2,[1,2],3) from rfl]
  go_enter Tryz.func51,Tryz.ntmps51
  go_wp2
  refine bodyPost_ret (v := .tuple #[.agg #[.int .i64 2,.slice (some ⟨w.heap.size + 1,0,none⟩) 2 2,.int .i64 3],.bool true]) (by simp [results,Tryz.results51,go_sem]) rfl (TeWy.two ?_ ?_ ?_)
  ·first | exact bal hw _ | exact bal (bal (Below.refl _ _) _) _
  ·simp [go_sem]
  ·simp [go_sem]
 by_cases h13 : op = 13
 ·subst h13
  rw [show wayA 13 = some (2,[1,2],3) from rfl]
  go_enter Tryz.func51,Tryz.ntmps51
  go_wp2
  refine bodyPost_ret (v := .tuple #[.agg #[.int .i64 2,.slice (some ⟨w.heap.size + 1,0,none⟩) 2 2,.int .i64 3],.bool true]) (by simp [results,Tryz.results51,go_sem]) rfl (TeWy.two ?_ ?_ ?_)
  ·first | exact bal hw _ | exact bal (bal (Below.refl _ _) _) _
  ·simp [go_sem]
  ·simp [go_sem]
 by_cases h14 : op = 14
 ·subst h14
  rw [show wayA 14 = some (2,[3],3) from rfl]
  go_enter Tryz.func51,Tryz.ntmps51
  go_wp2
  refine bodyPost_ret (v := .tuple #[.agg #[.int .i64 2,.slice (some ⟨w.heap.size + 1,0,none⟩) 1 1,.int .i64 3],.bool true]) (by simp [results,Tryz.results51,go_sem]) rfl (TeWy.one ?_ ?_)
  ·first | exact bal hw _ | exact bal (bal (Below.refl _ _) _) _
  ·simp [go_sem]
 by_cases h15 : op = 15
 ·subst h15
  rw [show wayA 15 = some (2,[3],3) from rfl]
  go_enter Tryz.func51,Tryz.ntmps51
  go_wp2
  refine bodyPost_ret (v := .tuple #[.agg #[.int .i64 2,.slice (some ⟨w.heap.size + 1,0,none⟩) 1 1,.int .i64 3],.bool true]) (by simp [results,Tryz.results51,go_sem]) rfl (TeWy.one ?_ ?_)
  ·first | exact bal hw _ | exact bal (bal (Below.refl _ _) _) _
  ·simp [go_sem]
 rw [show wayA op = none from by unfold wayA; simp [h1,h2,h3,h4,h5,h6,h7,h8,h9,h10,h11,h12,h13,h14,h15]]
 have g1 : decide (op = 1) = false := by simpa using h1
 have g2 : decide (op = 2) = false := by simpa using h2
 have g3 : decide (op = 3) = false := by simpa using h3
 have g4 : decide (op = 4) = false := by simpa using h4
 have g5 : decide (op = 5) = false := by simpa using h5
 have g6 : decide (op = 6) = false := by simpa using h6
 have g7 : decide (op = 7) = false := by simpa using h7
 have g8 : decide (op = 8) = false := by simpa using h8
 have g9 : decide (op = 9) = false := by simpa using h9
 have g10 : decide (op = 10) = false := by simpa using h10
 have g11 : decide (op = 11) = false := by simpa using h11
 have g12 : decide (op = 12) = false := by simpa using h12
 have g13 : decide (op = 13) = false := by simpa using h13
 have g14 : decide (op = 14) = false := by simpa using h14
 have g15 : decide (op = 15) = false := by simpa using h15
 go_enter Tryz.func51,Tryz.ntmps51
 go_wp2
 refine bodyPost_ret (v := .tuple #[.agg #[.int .i64 0,.slice none 0 0,.int .i64 0],.bool false]) (by simp [results,Tryz.results51,go_sem]) rfl (TeWy.none ?_)
 first | exact hw | exact hw.setCell (Nat.le_refl _) _ | exact ((hw.setCell (Nat.le_refl _) _).setCell (Nat.le_refl _) _).setCell (Nat.le_refl _) _

/-- A function value,bound to r,that tells two numbers of an expression. -/
def KindF (f : Pg × Tg → Int × Int) (P : Pg × Tg → Prop) (w : World) (N : Nat) (r : Value) : Prop := (∀ args w',(callFunc N args).run Tryz.prog w' = .ok (.enter N args) w') ∧ ∀ (x : Pg × Tg) (Q : Nat → Prop) (cs : List Value) (w' : World),P x → Below w.heap.size w w' → eG.E Q w' x cs → Calls Tryz.prog N #[r,.agg cs.toArray] w' fun en w'' => en = .returned (.tuple #[.int .i64 (f x).1,.int .i64 (f x).2]) ∧ Below w'.heap.size w' w''
set_option maxRecDepth 100000 in
set_option maxHeartbeats 4000000 in
theorem each1_any {f : Pg × Tg → Int × Int} {P : Pg × Tg → Prop} {w1 : World} {bf : Nat} {N : Nat} {r : Value} (hv : KindF f P w1 N r) (hf : w1.cell? ⟨bf,0,none⟩ = some (.func (.func N) #[r] #[])) {Q : Nat → Prop} {x : Pg × Tg} (hP : P x) {w' : World} (hb : Below w1.heap.size w1 w') {a : Option Addr} {m d : Nat} {css : List (List Value)} (ho : OwnR 3 1 w1.heap.size w' (.slice a m d) css) (hl : css.length ≤ 500) {cs : List Value} (hx : eG.E Q w' x cs) :
  Calls Tryz.prog 81 #[.slice a m d,.agg cs.toArray,.pointer (some ⟨bf,0,none⟩)] w' fun en w'' => ∃ a2 m2 d2,en = .returned (.tuple #[.slice a2 m2 d2,.int .i64 (f x).2]) ∧ Below w1.heap.size w1 w'' ∧ OwnR 3 1 w1.heap.size w'' (.slice a2 m2 d2) (css ++ [[.int .i64 (f x).1]]) := by
 obtain ⟨hcf,hN⟩ := hv
 have hEx' := hx
 obtain ⟨ea,en,ec,rfl,-⟩ := hEx'
 simp only [exC] at *
 have HX := hN x Q [.int .i64 x.1.1,.int .i64 x.1.2.1,.int .i64 x.1.2.2.1,.string x.1.2.2.2.1,.string x.1.2.2.2.2.1,.string x.1.2.2.2.2.2,.slice ea en ec] (w'.alloc (.cells #[.int .i64 x.1.1,.int .i64 x.1.2.1,.int .i64 x.1.2.2.1,.string x.1.2.2.2.1,.string x.1.2.2.2.2.1,.string x.1.2.2.2.2.2,.slice ea en ec] 28)) hP (bal hb _) (eG.keep (fun b _ hl => (bal (Below.refl _ _) _).block b hl) hx)
 have bx := Bk.new w' (.cells #[.int .i64 x.1.1,.int .i64 x.1.2.1,.int .i64 x.1.2.2.1,.string x.1.2.2.2.1,.string x.1.2.2.2.2.1,.string x.1.2.2.2.2.2,.slice ea en ec] 28)
 have ho1 := ho.alloc (.cells #[.int .i64 x.1.1,.int .i64 x.1.2.1,.int .i64 x.1.2.2.1,.string x.1.2.2.2.1,.string x.1.2.2.2.2.1,.string x.1.2.2.2.2.2,.slice ea en ec] 28)
 have hb1 := bal hb (.cells #[.int .i64 x.1.1,.int .i64 x.1.2.1,.int .i64 x.1.2.2.1,.string x.1.2.2.2.1,.string x.1.2.2.2.2.1,.string x.1.2.2.2.2.2,.slice ea en ec] 28)
 have hf1 := cell_later hb1 hf
 clear ho hb hN hx hf hP
 generalize (f x).1 = k1 at *
 generalize (f x).2 = k2 at *
 replace HX : Hid _ := hid HX
 go_enter Tryz.func81,Tryz.ntmps81
 go_upto_region 1 with fail
 generalize w'.alloc (.cells #[.int .i64 x.1.1,.int .i64 x.1.2.1,.int .i64 x.1.2.2.1,.string x.1.2.2.2.1,.string x.1.2.2.2.2.1,.string x.1.2.2.2.2.2,.slice ea en ec] 28) = W at *
 have d0 := bx.cell 0
 have d1 := bx.cell 1
 have d2 := bx.cell 2
 have d3 := bx.cell 3
 have d4 := bx.cell 4
 have d5 := bx.cell 5
 have d6 := bx.cell 6
 simp only [List.getElem?_toArray,List.getElem?_cons_zero,List.getElem?_cons_succ] at d0 d1 d2 d3 d4 d5 d6
 clear bx
 go_wp2_with fail
 refine Calls.mono HX.out ?_
 rintro e w4 ⟨rfl,hb4⟩
 have ho4 := ho1.later hb4
 have hB4 := Below.on hb1 hb4
 have ho5 := ho4.alloc (.cells #[.int .i64 k1] 3)
 have hB5 := bal hB4 (.cells #[.int .i64 k1] 3)
 have hblk := ho4.blk
 clear HX hf1 ho1 hb1 hb4 ho4 hB4 d0 d1 d2 d3 d4 d5 d6
 go_wp2_with (first | (at_builtin; go_must (refine wpList_appR Tryz.underlying23 Tryz.infoTInt2 rfl (by decide) (by decide) rfl (.tmp 15) (.tmp 17) rfl _ css w4.heap.size [.int .i64 k1] rfl rfl ho5 rfl (by simp [Value.oneCell']) (newK1 w4 _ _) (by omega) hB5.size ?_)) | fail)
 intro v' w6 hO6 hg6 hown
 have hB6 := below_grows hB5 hB5.size hg6 fun k e => (hblk k e).1
 obtain ⟨a2,m2,d2,rfl⟩ := hO6.sl
 clear hg6 hown ho5 hB5 hblk
 go_wp2
 exact bodyPost_ret (v := .tuple #[.slice a2 m2 d2,.int .i64 k2]) (by simp [results,Tryz.results81]) rfl ⟨a2,m2,d2,rfl,hB6,hO6⟩
set_option maxRecDepth 100000 in
set_option maxHeartbeats 4000000 in
theorem eachEx {l : List (Pg × Tg)} (hlen : l.length ≤ 500) {f : Pg × Tg → Int × Int} {P : Pg × Tg → Prop} {Q : Nat → Prop} {w : World} {ao : Option Addr} {n c : Nat} (h : RowIs eG Q w (.slice ao n c) l) {N : Nat} {r : Value} (hv : KindF f P w N r) (hP : ∀ x ∈ l,P x) :
  Calls Tryz.prog 53 #[.slice ao n c,.func (.func N) #[r] #[]] w fun en w' => ∃ a m d,en = .returned (.tuple #[.slice a m d,.int .i64 (erL (l.map fun x => (f x).2))]) ∧ Below w.heap.size w w' ∧ (erL (l.map fun x => (f x).2) = 0 → RowIs eInt (fun _ => True) w' (.slice a m d) (l.map fun x => (f x).1)) := by
 have hw := bal (Below.refl w.heap.size w) (.cells #[.func (.func N) #[r] #[]] 72)
 have hf := cell_new w #[.func (.func N) #[r] #[]] 72 (0,0) 0
 generalize hW : w.alloc (.cells #[.func (.func N) #[r] #[]] 72) = W at hw hf
 have hv1 : KindF f P W N r := ⟨hv.1,fun x Q cs w' hp hb hx => hv.2 x Q cs w' hp (Below.on hw hb) hx⟩
 have hr1 : RowIs eG Q W (.slice ao n c) l := h.keep (by decide) fun b _ hl => hw.block b hl
 have hcf : ∀ args w',(callFunc 81 args).run Tryz.prog w' = .ok (.enter 81 args) w' := fun args w' => by rfl
 have HE : erO (fun i => ((l.map fun x => (f x).2)[i]?).getD 0) l.length = erL (l.map fun x => (f x).2) := by
  have := erO_list (l := l.map fun x => (f x).2) (er := fun i => ((l.map fun x => (f x).2)[i]?).getD 0) fun i hi => by rw [List.getElem?_eq_getElem hi]; rfl
  rwa [List.length_map] at this
 have HC := foldExInts hlen hr1 (caps := #[.pointer (some ⟨w.heap.size,0,none⟩)]) hcf (fun i => ((l.map fun x => (f x).2)[i]?).getD 0) (fun i w' a m d => Below W.heap.size W w' ∧ OwnR 3 1 W.heap.size w' (.slice a m d) ((l.take i).map fun x => [.int .i64 (f x).1]))
  (fun i w' a m d hI => hI.1) (fun i w' a m d o hI => ⟨bal hI.1 o,hI.2.alloc o⟩) (a0 := none) (m0 := 0) (d0 := 0) ⟨Below.refl _ _,OwnR.nil _ _ _ _⟩
  (fun i hi w' a m d cs hI hx => by
   refine Calls.mono (each1_any hv1 hf (hP _ (List.getElem_mem hi)) hI.1 hI.2 (by rw [List.length_map,List.length_take]; omega) hx) ?_
   rintro en w'' ⟨a2,m2,d2,rfl,hb2,ho2⟩
   refine ⟨a2,m2,d2,?_,hb2,fun _ => ⟨hb2,?_⟩⟩
   ·rw [List.getElem?_eq_getElem (by simpa using hi),List.getElem_map]; rfl
   ·rw [List.take_succ_eq_append_getElem hi,List.map_append]; exact ho2)
 rw [HE] at HC
 generalize erL (l.map fun x => (f x).2) = E at *
 replace HC : Hid _ := hid HC
 clear hv hv1 hr1 hf hcf h HE
 go_enter Tryz.func53,Tryz.ntmps53
 go_upto_region 1 with fail
 go_wp2_with fail
 refine Calls.mono HC.out ?_
 rintro e w4 ⟨a,m,d,rfl,hb4,hI⟩
 have HI : Hid _ := hid hI
 clear HC hI
 go_wp2
 refine bodyPost_ret (v := .tuple #[.slice a m d,.int .i64 E]) (by simp [results,Tryz.results53]) rfl ⟨a,m,d,rfl,Below.on hw hb4,fun h0 => ?_⟩
 obtain ⟨hB,ho⟩ := HI.out h0
 rw [List.take_length] at ho
 exact OwnR.rowE (e := eInt) ho (by simp) (fun _ _ _ => trivial) fun i h1 h2 => by
  show _ = _
  simp

end Go.Proofs.YtljmlacnfnmjbaaGreat
namespace Go.Proofs.YtljmlacnfnmjbaaGreat
open Go.RowKit
set_option linter.unusedVariables false
set_option linter.unusedSimpArgs false

theorem wayA_few {op : Int} {v : Int × List Int × Int} (h : wayA op = some v) : v.1 ≤ 2 := by
 unfold wayA at h
 by_cases h1 : op = 1
 ·rw [if_pos h1] at h; injection h with h; rw [← h]; decide
 rw [if_neg h1] at h
 by_cases h2 : op = 2
 ·rw [if_pos h2] at h; injection h with h; rw [← h]; decide
 rw [if_neg h2] at h
 by_cases h3 : op = 3
 ·rw [if_pos h3] at h; injection h with h; rw [← h]; decide
 rw [if_neg h3] at h
 by_cases h4 : op = 4
 ·rw [if_pos h4] at h; injection h with h; rw [← h]; decide
 rw [if_neg h4] at h
 by_cases h5 : op = 5
 ·rw [if_pos h5] at h; injection h with h; rw [← h]; decide
 rw [if_neg h5] at h
 by_cases h6 : op = 6
 ·rw [if_pos h6] at h; injection h with h; rw [← h]; decide
 rw [if_neg h6] at h
 by_cases h7 : op = 7
 ·rw [if_pos h7] at h; injection h with h; rw [← h]; decide
 rw [if_neg h7] at h
 by_cases h8 : op = 8
 ·rw [if_pos h8] at h; injection h with h; rw [← h]; decide
 rw [if_neg h8] at h
 by_cases h9 : op = 9
 ·rw [if_pos h9] at h; injection h with h; rw [← h]; decide
 rw [if_neg h9] at h
 by_cases h10 : op = 10
 ·rw [if_pos h10] at h; injection h with h; rw [← h]; decide
 rw [if_neg h10] at h
 by_cases h11 : op = 11
 ·rw [if_pos h11] at h; injection h with h; rw [← h]; decide
 rw [if_neg h11] at h
 by_cases h12 : op = 12
 ·rw [if_pos h12] at h; injection h with h; rw [← h]; decide
 rw [if_neg h12] at h
 by_cases h13 : op = 13
 ·rw [if_pos h13] at h; injection h with h; rw [← h]; decide
 rw [if_neg h13] at h
 by_cases h14 : op = 14
 ·rw [if_pos h14] at h; injection h with h; rw [← h]; decide
 rw [if_neg h14] at h
 by_cases h15 : op = 15
 ·rw [if_pos h15] at h; injection h with h; rw [← h]; decide
 rw [if_neg h15] at h
 cases h
/-- What kind tells of an expression. -/
def KindC (S : List Cl3) (x : Pg × Tg) : Prop := ∀ (Q : Nat → Prop) (w : World) (cs : List Value) (a : Option Addr) (n c : Nat),RowIs eClm (fun _ => True) w (.slice a n c) S → eG.E Q w x cs → Calls Tryz.prog 26 #[.slice a n c,.agg cs.toArray] w fun en w' => en = .returned (.tuple #[.int .i64 (kdT S x).1,.int .i64 (kdT S x).2]) ∧ Below w.heap.size w w'
theorem kdT_none {S : List Cl3} {x : Pg × Tg} (h : wayA x.1.1 = none) : kdT S x = (0,1) := by unfold kdT kd1; rw [h]
theorem kds_len (S : List Cl3) (f : Tg) : (kds S f).length = (toL f).length := by rw [kds_map,List.length_map]
theorem kdT_len {S : List Cl3} {x : Pg × Tg} {v : Int × List Int × Int} (h : wayA x.1.1 = some v) (hn : ((toL x.2).length : Int) ≠ v.1) : kdT S x = (0,1) := by
 unfold kdT kd1; rw [h]
 show (if ((kds S x.2).length : Int) ≠ v.1 then _ else _) = _
 rw [if_pos (by rw [kds_len]; exact hn)]
theorem kdT_lit {S : List Cl3} {x : Pg × Tg} {v : Int × List Int × Int} (h : wayA x.1.1 = some v) (hn : ((toL x.2).length : Int) = v.1) (h1 : x.1.1 = 1) : kdT S x = (x.1.2.1,0) := by
 unfold kdT kd1; rw [h]
 show (if ((kds S x.2).length : Int) ≠ v.1 then _ else _) = _
 rw [if_neg (by rw [kds_len]; simpa using hn),if_pos h1]
theorem kdT_col {S : List Cl3} {x : Pg × Tg} {v : Int × List Int × Int} (h : wayA x.1.1 = some v) (hn : ((toL x.2).length : Int) = v.1) (h1 : x.1.1 ≠ 1) (h2 : x.1.1 = 2) : kdT S x = clmK S x.1.2.2.2.2.1 x.1.2.2.2.2.2 := by
 unfold kdT kd1; rw [h]
 show (if ((kds S x.2).length : Int) ≠ v.1 then _ else _) = _
 rw [if_neg (by rw [kds_len]; simpa using hn),if_neg h1,if_pos h2]
theorem kds_snd (S : List Cl3) (f : Tg) : (kds S f).map (·.2) = (toL f).map fun x => (kdT S x).2 := by rw [kds_map,List.map_map]; rfl
theorem kds_fst (S : List Cl3) (f : Tg) : (kds S f).map (·.1) = (toL f).map fun x => (kdT S x).1 := by rw [kds_map,List.map_map]; rfl
theorem kdT_err {S : List Cl3} {x : Pg × Tg} {v : Int × List Int × Int} (h : wayA x.1.1 = some v) (hn : ((toL x.2).length : Int) = v.1) (h1 : x.1.1 ≠ 1) (h2 : x.1.1 ≠ 2) (he : erL ((toL x.2).map fun x => (kdT S x).2) ≠ 0) : kdT S x = (0,erL ((toL x.2).map fun x => (kdT S x).2)) := by
 rw [kdT,kd1,h]
 show (if ((kds S x.2).length : Int) ≠ v.1 then _ else _) = _
 rw [if_neg (by rw [kds_len]; simpa using hn),if_neg h1,if_neg h2,kds_snd,if_pos he]
theorem kdT_ok {S : List Cl3} {x : Pg × Tg} {v : Int × List Int × Int} (h : wayA x.1.1 = some v) (hn : ((toL x.2).length : Int) = v.1) (h1 : x.1.1 ≠ 1) (h2 : x.1.1 ≠ 2) (he : erL ((toL x.2).map fun x => (kdT S x).2) = 0) : kdT S x = if takesP v.2.1 ((toL x.2).map fun x => (kdT S x).1) then (v.2.2,0) else (0,11) := by
 rw [kdT,kd1,h]
 show (if ((kds S x.2).length : Int) ≠ v.1 then _ else _) = _
 rw [if_neg (by rw [kds_len]; simpa using hn),if_neg h1,if_neg h2,kds_snd,if_neg (by simpa using he),kds_fst]

set_option maxRecDepth 100000 in
set_option maxHeartbeats 4000000 in
theorem kind_step {S : List Cl3} (hS : S.length ≤ 500) (x : Pg × Tg) (ih : ∀ y ∈ toL x.2,KindC S y) : KindC S x := by
 intro Q w cs a n c hR hx
 have hEx' := hx
 obtain ⟨ea,en,ec,rfl,hsl⟩ := hEx'
 have hlen := hsl.1
 have hec := hsl.2.1
 have hecm := hsl.2.2.1
 simp only [exC] at *
 have hw := bal (Below.refl w.heap.size w) (.cells #[.int .i64 x.1.1,.int .i64 x.1.2.1,.int .i64 x.1.2.2.1,.string x.1.2.2.2.1,.string x.1.2.2.2.2.1,.string x.1.2.2.2.2.2,.slice ea en ec] 28)
 have bx := Bk.new w (.cells #[.int .i64 x.1.1,.int .i64 x.1.2.1,.int .i64 x.1.2.2.1,.string x.1.2.2.2.1,.string x.1.2.2.2.2.1,.string x.1.2.2.2.2.2,.slice ea en ec] 28)
 generalize hW : w.alloc (.cells #[.int .i64 x.1.1,.int .i64 x.1.2.1,.int .i64 x.1.2.2.1,.string x.1.2.2.2.1,.string x.1.2.2.2.2.1,.string x.1.2.2.2.2.2,.slice ea en ec] 28) = W at hw bx
 have d0 := bx.cell 0
 have d1 := bx.cell 1
 have d4 := bx.cell 4
 have d5 := bx.cell 5
 have d6 := bx.cell 6
 simp only [List.getElem?_toArray,List.getElem?_cons_zero,List.getElem?_cons_succ] at d0 d1 d4 d5 d6
 have HC : Hid (∀ w',Below W.heap.size W w' → RowIs eClm (fun _ => True) w' (.slice a n c) S) := hid fun w' hb => hR.keep (by decide) fun b _ hl => (Below.on hw hb).block b hl
 have HA : Hid (∀ w',Below W.heap.size W w' → RowIs eG Q w' (.slice ea en ec) (toL x.2)) := hid fun w' hb => hsl.row.keep (by decide) fun b _ hl => (Below.on hw hb).block b hl
 have HWy : Hid _ := hid (wayOf_any x.1.1 W)
 have HIH : Hid _ := hid ih
 have H1 : Hid (wayA x.1.1 = none → kdT S x = (0,1)) := hid kdT_none
 have H2 : Hid (∀ v,wayA x.1.1 = some v → ((toL x.2).length : Int) ≠ v.1 → kdT S x = (0,1)) := hid fun v => kdT_len
 have H3 : Hid (∀ v,wayA x.1.1 = some v → ((toL x.2).length : Int) = v.1 → x.1.1 = 1 → kdT S x = (x.1.2.1,0)) := hid fun v => kdT_lit
 have H4 : Hid (∀ v,wayA x.1.1 = some v → ((toL x.2).length : Int) = v.1 → x.1.1 ≠ 1 → x.1.1 = 2 → kdT S x = clmK S x.1.2.2.2.2.1 x.1.2.2.2.2.2) := hid fun v => kdT_col
 have H5 : Hid (∀ v,wayA x.1.1 = some v → ((toL x.2).length : Int) = v.1 → x.1.1 ≠ 1 → x.1.1 ≠ 2 → erL ((toL x.2).map fun x => (kdT S x).2) ≠ 0 → kdT S x = (0,erL ((toL x.2).map fun x => (kdT S x).2))) := hid fun v => kdT_err
 have H6 : Hid (∀ v,wayA x.1.1 = some v → ((toL x.2).length : Int) = v.1 → x.1.1 ≠ 1 → x.1.1 ≠ 2 → erL ((toL x.2).map fun x => (kdT S x).2) = 0 → kdT S x = if takesP v.2.1 ((toL x.2).map fun x => (kdT S x).1) then (v.2.2,0) else (0,11)) := hid fun v => kdT_ok
 clear hx hsl hR ih bx
 obtain ⟨K,hK⟩ : ∃ K,kdT S x = K := ⟨_,rfl⟩
 rw [hK] at H1 H2 H3 H4 H5 H6 ⊢
 have HEa : Hid _ := hid fun (hl : (toL x.2).length ≤ 500) w' (hb : Below W.heap.size W w') => eachEx hl (f := kdT S) (P := fun y => y ∈ toL x.2) (HA.out w' hb) (N := 26) (r := .slice a n c) ⟨fun args w2 => by rfl,fun y Q2 cs2 w2 hy hb2 hx2 => HIH.out y hy Q2 w2 cs2 a n c (HC.out w2 (Below.on hb hb2)) hx2⟩ (fun y hy => hy)
 have HCl : Hid (∀ w',Below W.heap.size W w' → _) := hid fun w' hb => columnK_any hS x.1.2.2.2.2.1 x.1.2.2.2.2.2 (HC.out w' hb)
 clear hK HIH HC
 obtain ⟨⟨op,k1,k2,k3,k4,k5⟩,f⟩ := x
 dsimp only at *
 generalize erL ((toL f).map fun x => (kdT S x).2) = E at *
 obtain ⟨L,hL⟩ : ∃ L,(toL f).map (fun x => (kdT S x).1) = L := ⟨_,rfl⟩
 rw [hL] at HEa H6
 have hLl : (toL f).length ≤ 500 → L.length ≤ 500 := fun hl => by rw [← hL,List.length_map]; exact hl
 clear hL
 generalize clmK S k4 k5 = CK at *
 generalize (toL f).length = fl at *
 subst hlen
 clear HA
 go_enter Tryz.func26,Tryz.ntmps26
 go_wp2_with fail
 refine Calls.mono HWy.out ?_
 rintro e w1 ⟨u,ao,m,d,v,is,rfl,hb1,hr⟩
 replace d0 := cell_later hb1 d0
 replace d1 := cell_later hb1 d1
 replace d4 := cell_later hb1 d4
 replace d5 := cell_later hb1 d5
 replace d6 := cell_later hb1 d6
 clear HWy
 rcases hr with ⟨hn,rfl,hmd,hdm⟩ | ⟨F,hs,rfl,hF,hrow⟩
 ·have hK := H1.out hn
  subst hK
  clear H1 H2 H3 H4 H5 H6 HEa HCl hn
  go_wp2
  exact bodyPost_ret (v := .tuple #[.int .i64 0,.int .i64 1]) (by simp [results,Tryz.results26]) rfl ⟨rfl,bal (Below.on hw hb1) _⟩
 ·have hb2 := bal (Below.refl w1.heap.size w1) (.cells #[.int .i64 u,.slice ao m d,.int .i64 v] 103)
  have hB2 := Below.on hb1 hb2
  have b2 := Bk.new w1 (.cells #[.int .i64 u,.slice ao m d,.int .i64 v] 103)
  have hrow2 : RowIs eInt (fun _ => True) (w1.alloc (.cells #[.int .i64 u,.slice ao m d,.int .i64 v] 103)) (.slice ao m d) F := hrow.keep (by decide) fun b _ hl => hb2.block b hl
  replace d0 := cell_later hb2 d0
  replace d1 := cell_later hb2 d1
  replace d4 := cell_later hb2 d4
  replace d5 := cell_later hb2 d5
  replace d6 := cell_later hb2 d6
  clear hrow hb1
  go_upto_region 2 with fail
  generalize w1.alloc (.cells #[.int .i64 u,.slice ao m d,.int .i64 v] 103) = W2 at *
  have e0 := b2.cell 0
  have e1 := b2.cell 1
  have e2 := b2.cell 2
  simp only [List.getElem?_toArray,List.getElem?_cons_zero,List.getElem?_cons_succ] at e0 e1 e2
  generalize w1.heap.size = q2 at *
  clear b2 hb2
  by_cases hn : (fl : Int) = u
  ·have hl : fl ≤ 500 := by have := wayA_few hs; dsimp only at this; omega
   subst hn
   by_cases h1 : op = 1
   ·have hK := H3.out _ hs rfl h1
    subst hK
    subst h1
    clear H1 H2 H3 H4 H5 H6 HEa HCl hs
    go_wp2
    exact bodyPost_ret (v := .tuple #[.int .i64 k1,.int .i64 0]) (by simp [results,Tryz.results26]) rfl ⟨rfl,Below.on hw hB2⟩
   ·have g1 : decide (op = 1) = false := by simpa using h1
    by_cases h2 : op = 2
    ·have hK := H4.out _ hs rfl h1 h2
     subst hK
     subst h2
     have HC2 : Hid _ := hid (HCl.out _ hB2)
     clear H1 H2 H3 H4 H5 H6 HEa HCl hs h1 g1
     go_wp2_with fail
     refine Calls.mono HC2.out ?_
     rintro e w3 ⟨rfl,hb3⟩
     clear HC2
     go_wp2
     exact bodyPost_ret (v := .tuple #[.int .i64 K.1,.int .i64 K.2]) (by simp [results,Tryz.results26]) rfl ⟨rfl,Below.on hw (Below.on hB2 hb3)⟩
    ·have g2 : decide (op = 2) = false := by simpa using h2
     have HE2 : Hid _ := hid (HEa.out hl _ hB2)
     have H5' : Hid _ := hid (H5.out _ hs rfl h1 h2)
     have H6' : Hid _ := hid (H6.out _ hs rfl h1 h2)
     clear H1 H2 H3 H4 H5 H6 HEa HCl hs
     go_wp2_with fail
     refine Calls.mono HE2.out ?_
     rintro e w3 ⟨a3,m3,c3,rfl,hb3,hr3⟩
     have HR3 : Hid _ := hid hr3
     clear HE2 hr3
     by_cases he : E = 0
     ·subst he
      have hr4 : RowIs eInt (fun _ => True) w3 (.slice a3 m3 c3) L := HR3.out (by first | rfl | trivial)
      have HT : Hid _ := hid (takes_any (hLl hl) (Nat.le_trans hF (by decide)) hr4 fl v (hrow2.keep (by decide) fun b _ hl => hb3.block b hl))
      replace e0 := cell_later hb3 e0
      replace e1 := cell_later hb3 e1
      replace e2 := cell_later hb3 e2
      have hK := H6'.out (by first | rfl | trivial)
      clear HR3 H5' H6' hr4 hrow2
      cases ht : takesP F L with
      | true =>
       rw [ht] at HT hK
       rw [if_pos rfl] at hK
       subst hK
       go_wp2_with fail
       refine Calls.mono HT.out ?_
       rintro e w4 ⟨rfl,hb4⟩
       replace e2 := cell_later hb4 e2
       go_wp2
       exact bodyPost_ret (v := .tuple #[.int .i64 v,.int .i64 0]) (by simp [results,Tryz.results26]) rfl ⟨rfl,Below.on hw (Below.on hB2 (Below.on hb3 hb4))⟩
      | false =>
       rw [ht] at HT hK
       rw [if_neg (by simp)] at hK
       subst hK
       go_wp2_with fail
       refine Calls.mono HT.out ?_
       rintro e w4 ⟨rfl,hb4⟩
       go_wp2
       exact bodyPost_ret (v := .tuple #[.int .i64 0,.int .i64 11]) (by simp [results,Tryz.results26]) rfl ⟨rfl,Below.on hw (Below.on hB2 (Below.on hb3 hb4))⟩
     ·have hK := H5'.out he
      subst hK
      have ge : decide (E = 0) = false := by simpa using he
      have gn : (E != 0) = true := by simpa using he
      clear HR3 H5' H6' hrow2
      go_wp2
      exact bodyPost_ret (v := .tuple #[.int .i64 0,.int .i64 E]) (by simp [results,Tryz.results26]) rfl ⟨rfl,Below.on hw (Below.on hB2 hb3)⟩
  ·have hK := H2.out _ hs hn
   subst hK
   have gn : ((fl : Int) != u) = true := by simpa using hn
   have gd : decide ((fl : Int) = u) = false := by simpa using hn
   clear H1 H2 H3 H4 H5 H6 HEa HCl hs
   go_wp2
   exact bodyPost_ret (v := .tuple #[.int .i64 0,.int .i64 1]) (by simp [results,Tryz.results26]) rfl ⟨rfl,Below.on hw hB2⟩
theorem kind_all {S : List Cl3} (hS : S.length ≤ 500) : ∀ f : Tg,∀ x ∈ toL f,KindC S x := by
 intro f
 induction f with
 | nil => intro x hx; simp [toL] at hx
 | node a b p l r ihl ihr =>
  intro x hx
  rw [toL,List.mem_cons] at hx
  rcases hx with rfl | hx
  ·exact kind_step hS (p,l) ihl
  ·exact ihr x hx
theorem kind_any {S : List Cl3} (hS : S.length ≤ 500) (x : Pg × Tg) : KindC S x := kind_step hS x (kind_all hS x.2)

end Go.Proofs.YtljmlacnfnmjbaaGreat
