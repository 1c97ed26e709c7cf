import Derived.Test.YtljmlacnfnmjbaaGreatTmay
import Derived.Test.YtljmlacnfnmjbaaGreatTmaf
import Derived.Test.YtljmlacnfnmjbaaGreatTmae
import Derived.Test.YtljmlacnfnmjbaaGreatTmag
namespace Go.Proofs.YtljmlacnfnmjbaaGreat
open Go.RowKit
set_option linter.unusedVariables false
set_option linter.unusedSimpArgs false

def pairP (C : List It) (K : List Int) : List Cl3 := (C.zip K).map fun x => (x.1.2.1,x.1.2.2,x.2)
theorem pairP_len (C : List It) (K : List Int) : (pairP C K).length = min C.length K.length := by unfold pairP; simp
theorem pairP_take {C : List It} {K : List Int} {i : Nat} (h1 : i < C.length) (h2 : i < K.length) : (pairP C K).take (i + 1) = (pairP C K).take i ++ [(C[i].2.1,C[i].2.2,K[i])] := by
 have hl : i < (pairP C K).length := by rw [pairP_len]; omega
 rw [List.take_succ_eq_append_getElem hl]
 have e : (pairP C K)[i] = (C[i].2.1,C[i].2.2,K[i]) := by simp only [pairP,List.getElem_map,List.getElem_zip]
 rw [e]
theorem RowIs.take {α : Type} {e : Ek α} {Q : Nat → Prop} {w : World} {ao : Option Addr} {n c : Nat} {l : List α} (h : RowIs e Q w (.slice ao n c) l) {r : Nat} (hr : r ≤ n) : RowIs e Q w (.slice ao r c) (l.take r) := by
 obtain ⟨_,_,_,e',h1,h2,h3,h4⟩ := h
 cases e'
 refine ⟨ao,r,c,rfl,by rw [List.length_take]; omega,by omega,h3,fun hp => ?_⟩
 obtain ⟨b,o,ea,hq,hi⟩ := h4 (by omega)
 refine ⟨b,o,ea,hq,fun i hi' => ?_⟩
 obtain ⟨cs,g1,g2,g3⟩ := hi i (by rw [List.length_take] at hi'; omega)
 exact ⟨cs,by rw [List.getElem_take]; exact g1,g2,g3⟩
theorem slice_items {ao : Option Addr} {n c r : Nat} (hr : r ≤ n) (hc : n ≤ c) (w' : World) : (Instr.slice 22 (.slice ao n c) none (some (.int .i64 r)) none).run Tryz.prog w' = .ok (.slice ao r c) w' := by
 have e0 : ∀ a : Addr,a.add 0 = a := fun a => by unfold Addr.add; simp
 have hrc : r ≤ c := by omega
 have hrc' : (r : Int) ≤ (c : Int) := by omega
 cases ao with
 | none => go_simp
 | some a => go_simp

set_option maxRecDepth 100000 in
set_option maxHeartbeats 4000000 in
theorem paired_any {C : List It} {K : List Int} (hC : C.length ≤ 500) {Q : Nat → Prop} {w : World} {a : Option Addr} {n c : Nat} (h : RowIs eItem Q w (.slice a n c) C) {ka : Option Addr} {kn kc : Nat} (hK : RowIs eInt (fun _ => True) w (.slice ka kn kc) K) :
  Calls Tryz.prog 25 #[.slice a n c,.slice ka kn kc] w fun en w' => ∃ a2 n2 c2,en = .returned (.slice a2 n2 c2) ∧ Below w.heap.size w w' ∧ RowIs eClm (fun _ => True) w' (.slice a2 n2 c2) (pairP C K) := by
 have hw := bal (Below.refl w.heap.size w) (.cells #[.slice ka kn kc] 23)
 have d0 := cell_new w #[.slice ka kn kc] 23 (0,0) 0
 simp only [List.getElem?_toArray,List.getElem?_cons_zero] at d0
 generalize hW : w.alloc (.cells #[.slice ka kn kc] 23) = W at hw d0
 obtain ⟨l1,l2,l3⟩ := h.lens
 obtain ⟨r1,r2,r3⟩ := hK.lens
 have hr1 : RowIs eItem Q W (.slice a (min C.length K.length) c) (C.take (min C.length K.length)) := (h.keep (by decide) fun b _ hl => hw.block b hl).take (by omega)
 have hK1 : RowIs eInt (fun _ => True) W (.slice ka kn kc) K := hK.keep (by decide) fun b _ hl => hw.block b hl
 have hcf : ∀ args w',(callFunc 50 args).run Tryz.prog w' = .ok (.enter 50 args) w' := fun args w' => by rfl
 have HC := foldItSc (by rw [List.length_take]; omega) hr1 (caps := #[.pointer (some ⟨w.heap.size,0,none⟩)]) hcf (fun _ => 0) (fun i w' a m d => Below W.heap.size W w' ∧ OwnR 100 3 W.heap.size w' (.slice a m d) (((pairP C K).take i).map clC))
  (fun i w' a m d hI => hI.1) (fun i w' a m d o hI => ⟨bal hI.1 o,hI.2.alloc o⟩) (a0 := none) (m0 := 0) (d0 := 0) ⟨Below.refl _ _,OwnR.nil _ _ _ _⟩
  (fun i hi w' a m d cs hI hx => by
   have hi2 : i < min C.length K.length := by rw [List.length_take] at hi; omega
   have hx' : cs = [.int .i64 C[i].1,.string C[i].2.1,.string C[i].2.2] := by
    have hx2 : cs = [.int .i64 (C.take (min C.length K.length))[i].1,.string (C.take (min C.length K.length))[i].2.1,.string (C.take (min C.length K.length))[i].2.2] := hx
    rw [List.getElem_take] at hx2
    exact hx2
   subst hx'
   have hcl : (((pairP C K).take i).map clC).length = i := by rw [List.length_map,List.length_take,pairP_len]; omega
   refine Calls.mono (paired1_any C[i] hK1 d0 hI.1 hI.2 (by omega) (by omega)) ?_
   rintro en w'' ⟨a2,m2,d2,rfl,hb2,ho2⟩
   refine ⟨a2,m2,d2,rfl,hb2,fun _ => ⟨hb2,?_⟩⟩
   rw [pairP_take (by omega) (by omega),List.map_append]
   simp only [hcl] at ho2
   exact ho2)
 have hz : erO (fun _ => 0) (C.take (min C.length K.length)).length = 0 := by
  unfold erO
  induction (C.take (min C.length K.length)).length with
  | zero => rfl
  | succ n ih => rw [List.range_succ,List.map_append,erL_app,ih]; rfl
 rw [hz] at HC
 have hcl : (C.take (min C.length K.length)).length = (pairP C K).length := by rw [List.length_take,pairP_len]; omega
 rw [hcl,List.take_length] at HC
 generalize pairP C K = P at *
 have hs := fun w' => slice_items (ao := a) (n := n) (c := c) (r := min C.length K.length) (by omega) l2 w'
 replace HC : Hid _ := hid HC
 rw [l1,r1] at HC hs
 clear hr1 hK1 hcf h hK hz hcl l1 r1
 obtain ⟨r,hr⟩ : ∃ r,min n kn = r := ⟨_,rfl⟩
 rw [hr] at HC hs
 have hmi : min (n : Int) (kn : Int) = (r : Int) := by omega
 have hrn : r ≤ n := by omega
 clear hr
 go_enter Tryz.func25,Tryz.ntmps25
 go_upto_region 1 with fail
 go_wp2_with fail
 with_reducible refine Calls.mono HC.out ?_
 rintro e w4 ⟨a4,m4,d4,rfl,hb4,hI⟩
 have HI : Hid _ := hid (hI (by first | rfl | trivial))
 clear HC hI
 go_wp2
 exact bodyPost_ret (v := .slice a4 m4 d4) (by simp [results,Tryz.results25]) rfl ⟨a4,m4,d4,rfl,Below.on hw hb4,HI.out.2.clm⟩
set_option maxRecDepth 100000 in
set_option maxHeartbeats 4000000 in
theorem Kind_any {C : List It} {K : List Int} (hC : C.length ≤ 500) (x : Pg × Tg) {Q : Nat → Prop} {w : World} {a : Option Addr} {n c : Nat} (h : RowIs eItem Q w (.slice a n c) C) {ka : Option Addr} {kn kc : Nat} (hK : RowIs eInt (fun _ => True) w (.slice ka kn kc) K) {cs : List Value} (hx : eG.E Q w x cs) :
  Calls Tryz.prog 11 #[.slice a n c,.slice ka kn kc,.agg cs.toArray] w fun en w' => en = .returned (.tuple #[.int .i64 (kdT (pairP C K) x).1,.int .i64 (kdT (pairP C K) x).2]) ∧ Below w.heap.size w w' := by
 have hEx' := hx
 obtain ⟨ea,en,ec,rfl,-⟩ := hEx'
 simp only [exC] at *
 have hw := bal (Below.refl w.heap.size w) (.cells #[.int .i64 x.1.1,.int .i64 x.1.2.1,.int .i64 x.1.2.2.1,.string x.1.2.2.2.1,.string x.1.2.2.2.2.1,.string x.1.2.2.2.2.2,.slice ea en ec] 28)
 have bx := Bk.new w (.cells #[.int .i64 x.1.1,.int .i64 x.1.2.1,.int .i64 x.1.2.2.1,.string x.1.2.2.2.1,.string x.1.2.2.2.2.1,.string x.1.2.2.2.2.2,.slice ea en ec] 28)
 generalize hW : w.alloc (.cells #[.int .i64 x.1.1,.int .i64 x.1.2.1,.int .i64 x.1.2.2.1,.string x.1.2.2.2.1,.string x.1.2.2.2.2.1,.string x.1.2.2.2.2.2,.slice ea en ec] 28) = W at hw bx
 have H1 : Hid (∀ w',Below W.heap.size W w' → _) := hid fun w' hb => paired_any hC (h.keep (by decide) fun b _ hl => (Below.on hw hb).block b hl) (hK.keep (by decide) fun b _ hl => (Below.on hw hb).block b hl)
 have hP5 : (pairP C K).length ≤ 500 := by rw [pairP_len]; omega
 have H2 : Hid (∀ (a2 : Option Addr) (n2 c2 : Nat) w',Below W.heap.size W w' → RowIs eClm (fun _ => True) w' (.slice a2 n2 c2) (pairP C K) → _) := hid fun a2 n2 c2 w' hb hr => kind_any hP5 x Q w' [.int .i64 x.1.1,.int .i64 x.1.2.1,.int .i64 x.1.2.2.1,.string x.1.2.2.2.1,.string x.1.2.2.2.2.1,.string x.1.2.2.2.2.2,.slice ea en ec] a2 n2 c2 hr (eG.keep (fun b _ hl => (Below.on hw hb).block b hl) hx)
 have d0 := bx.cell 0
 have d1 := bx.cell 1
 have d2 := bx.cell 2
 have d3 := bx.cell 3
 have d4 := bx.cell 4
 have d5 := bx.cell 5
 have d6 := bx.cell 6
 simp only [List.getElem?_toArray,List.getElem?_cons_zero,List.getElem?_cons_succ] at d0 d1 d2 d3 d4 d5 d6
 generalize (kdT (pairP C K) x).1 = r1 at *
 generalize (kdT (pairP C K) x).2 = r2 at *
 generalize pairP C K = P at *
 have hC : Below W.heap.size W W.drew := (Below.refl _ W).drew
 clear h hK hx bx hP5
 go_enter Tryz.func11,Tryz.ntmps11
 go_upto_region 1 with fail
 clear hW
 generalize w.heap.size = q at d0 d1 d2 d3 d4 d5 d6 ⊢
 go_region_held (fun w' => w'.cell? ⟨q,0,none⟩ = some (.int .i64 x.1.1) ∧ w'.cell? ⟨q,1,none⟩ = some (.int .i64 x.1.2.1) ∧ w'.cell? ⟨q,2,none⟩ = some (.int .i64 x.1.2.2.1) ∧ w'.cell? ⟨q,3,none⟩ = some (.string x.1.2.2.2.1) ∧ w'.cell? ⟨q,4,none⟩ = some (.string x.1.2.2.2.2.1) ∧ w'.cell? ⟨q,5,none⟩ = some (.string x.1.2.2.2.2.2) ∧ w'.cell? ⟨q,6,none⟩ = some (.slice ea en ec))
  (first | exact ⟨cell_later hC d0,cell_later hC d1,cell_later hC d2,cell_later hC d3,cell_later hC d4,cell_later hC d5,cell_later hC d6⟩)
  (first
  | (go_at_call 25; with_reducible refine Calls.mono (H1.out _ hC) ?_; rintro e z1 ⟨a2,n2,c2,rfl,hb1,hr1⟩; replace hC := Below.on hC hb1; have HR : Hid _ := hid hr1; clear hr1; have hC2 := Below.refl z1.heap.size z1)
  | (go_at_call 26; with_reducible refine Calls.mono (H2.out _ _ _ _ hC HR.out) ?_; rintro e z2 ⟨rfl,hb2⟩; replace hC := Below.on hC hb2))
 all_goals
  go_wp2
  exact bodyPost_ret (v := .tuple #[.int .i64 r1,.int .i64 r2]) (by simp [results,Tryz.results11]) rfl ⟨rfl,Below.on hw hC⟩
abbrev tbT : Tbl := ⟨⟨#[116]⟩,[(⟨#[107]⟩,1,⟨#[]⟩),(⟨#[118]⟩,2,⟨#[]⟩),(⟨#[110]⟩,1,⟨#[]⟩)],[⟨#[110]⟩]⟩
abbrev tbU : Tbl := ⟨⟨#[117]⟩,[(⟨#[107]⟩,2,⟨#[]⟩),(⟨#[114]⟩,1,⟨#[116]⟩),(⟨#[110]⟩,1,⟨#[]⟩)],[]⟩
abbrev tbs : List Tbl := [tbT,tbU]
theorem tbs_B : AllB TblB tbs := by
 refine ⟨by simp,fun x hx => ?_⟩
 simp only [List.mem_cons,List.not_mem_nil,or_false] at hx
 rcases hx with rfl | rfl
 ·refine ⟨by simp only [StrB]; decide,⟨by simp,fun c hc => ?_⟩,⟨by simp,fun c hc => ?_⟩⟩
  ·simp only [List.mem_cons,List.not_mem_nil,or_false] at hc
   rcases hc with rfl | rfl | rfl <;> exact ⟨by decide,by decide⟩
  ·simp only [List.mem_cons,List.not_mem_nil,or_false] at hc
   subst hc
   simp only [StrB]; decide
 ·refine ⟨by simp only [StrB]; decide,⟨by simp,fun c hc => ?_⟩,⟨by simp,fun c hc => ?_⟩⟩
  ·simp only [List.mem_cons,List.not_mem_nil,or_false] at hc
   rcases hc with rfl | rfl | rfl <;> exact ⟨by decide,by decide⟩
  ·simp at hc
theorem tbs_ne : ∀ t ∈ tbs,t.cols ≠ [] := by
 intro t ht
 simp only [List.mem_cons,List.not_mem_nil,or_false] at ht
 rcases ht with rfl | rfl <;> simp
set_option maxRecDepth 100000 in
set_option maxHeartbeats 2000000 in
theorem schemaT_any (w : World) : Calls Tryz.prog 17 #[] w fun e w' => ∃ b,e = .returned (.agg #[.slice (some ⟨b,0,none⟩) 2 2,.slice none 0 0]) ∧ IsT w' tbs (some ⟨b,0,none⟩) 2 2 ∧ w.heap.size ≤ b ∧ Below w.heap.size w w' := by
 go_enter Tryz.func17,Tryz.ntmps17
 go_wp2
 refine bodyPost_ret (v := .agg #[.slice (some ⟨w.heap.size + 1 + 1 + 1 + 1,0,none⟩) 2 2,.slice none 0 0]) (by simp [results,Tryz.results17,go_sem]) rfl ⟨w.heap.size + 1 + 1 + 1 + 1,rfl,⟨?_,tbs_B,tbs_ne⟩,by omega,bal (bal (bal (bal (bal (Below.refl _ _) _) _) _) _) _⟩
 have hT := cols_new (w.alloc (.cells #[.slice (some ⟨w.heap.size + 1 + 1 + 1 + 1,0,none⟩) 2 2,.slice none 0 0] 38)) ⟨#[107]⟩ ⟨#[]⟩ ⟨#[118]⟩ ⟨#[]⟩ ⟨#[110]⟩ ⟨#[]⟩ 1 2 1 (Q := fun _ => True) (w' := (((((w.alloc (.cells #[.slice (some ⟨w.heap.size + 1 + 1 + 1 + 1,0,none⟩) 2 2,.slice none 0 0] 38)).alloc (.cells #[.string ⟨#[107]⟩,.int .i64 1,.string ⟨#[]⟩,.string ⟨#[118]⟩,.int .i64 2,.string ⟨#[]⟩,.string ⟨#[110]⟩,.int .i64 1,.string ⟨#[]⟩] 84)).alloc (.cells #[.string ⟨#[110]⟩] 9)).alloc (.cells #[.string ⟨#[107]⟩,.int .i64 2,.string ⟨#[]⟩,.string ⟨#[114]⟩,.int .i64 1,.string ⟨#[116]⟩,.string ⟨#[110]⟩,.int .i64 1,.string ⟨#[]⟩] 84)).alloc (.cells #[.string ⟨#[116]⟩,.slice (some ⟨w.heap.size + 1,0,none⟩) 3 3,.slice (some ⟨w.heap.size + 1 + 1,0,none⟩) 1 1,.string ⟨#[117]⟩,.slice (some ⟨w.heap.size + 1 + 1 + 1,0,none⟩) 3 3,.slice none 0 0] 58))) (by
  rw [show (w.alloc (.cells #[.slice (some ⟨w.heap.size + 1 + 1 + 1 + 1,0,none⟩) 2 2,.slice none 0 0] 38)).heap.size + 1 = ((w.alloc (.cells #[.slice (some ⟨w.heap.size + 1 + 1 + 1 + 1,0,none⟩) 2 2,.slice none 0 0] 38)).alloc (.cells #[.string ⟨#[107]⟩,.int .i64 1,.string ⟨#[]⟩,.string ⟨#[118]⟩,.int .i64 2,.string ⟨#[]⟩,.string ⟨#[110]⟩,.int .i64 1,.string ⟨#[]⟩] 84)).heap.size from by simp]
  exact bal (bal (bal (Below.refl _ _) _) _) _) trivial
 have hU := cols_new (((w.alloc (.cells #[.slice (some ⟨w.heap.size + 1 + 1 + 1 + 1,0,none⟩) 2 2,.slice none 0 0] 38)).alloc (.cells #[.string ⟨#[107]⟩,.int .i64 1,.string ⟨#[]⟩,.string ⟨#[118]⟩,.int .i64 2,.string ⟨#[]⟩,.string ⟨#[110]⟩,.int .i64 1,.string ⟨#[]⟩] 84)).alloc (.cells #[.string ⟨#[110]⟩] 9)) ⟨#[107]⟩ ⟨#[]⟩ ⟨#[114]⟩ ⟨#[116]⟩ ⟨#[110]⟩ ⟨#[]⟩ 2 1 1 (Q := fun _ => True) (w' := (((((w.alloc (.cells #[.slice (some ⟨w.heap.size + 1 + 1 + 1 + 1,0,none⟩) 2 2,.slice none 0 0] 38)).alloc (.cells #[.string ⟨#[107]⟩,.int .i64 1,.string ⟨#[]⟩,.string ⟨#[118]⟩,.int .i64 2,.string ⟨#[]⟩,.string ⟨#[110]⟩,.int .i64 1,.string ⟨#[]⟩] 84)).alloc (.cells #[.string ⟨#[110]⟩] 9)).alloc (.cells #[.string ⟨#[107]⟩,.int .i64 2,.string ⟨#[]⟩,.string ⟨#[114]⟩,.int .i64 1,.string ⟨#[116]⟩,.string ⟨#[110]⟩,.int .i64 1,.string ⟨#[]⟩] 84)).alloc (.cells #[.string ⟨#[116]⟩,.slice (some ⟨w.heap.size + 1,0,none⟩) 3 3,.slice (some ⟨w.heap.size + 1 + 1,0,none⟩) 1 1,.string ⟨#[117]⟩,.slice (some ⟨w.heap.size + 1 + 1 + 1,0,none⟩) 3 3,.slice none 0 0] 58))) (by
  rw [show (((w.alloc (.cells #[.slice (some ⟨w.heap.size + 1 + 1 + 1 + 1,0,none⟩) 2 2,.slice none 0 0] 38)).alloc (.cells #[.string ⟨#[107]⟩,.int .i64 1,.string ⟨#[]⟩,.string ⟨#[118]⟩,.int .i64 2,.string ⟨#[]⟩,.string ⟨#[110]⟩,.int .i64 1,.string ⟨#[]⟩] 84)).alloc (.cells #[.string ⟨#[110]⟩] 9)).heap.size + 1 = ((((w.alloc (.cells #[.slice (some ⟨w.heap.size + 1 + 1 + 1 + 1,0,none⟩) 2 2,.slice none 0 0] 38)).alloc (.cells #[.string ⟨#[107]⟩,.int .i64 1,.string ⟨#[]⟩,.string ⟨#[118]⟩,.int .i64 2,.string ⟨#[]⟩,.string ⟨#[110]⟩,.int .i64 1,.string ⟨#[]⟩] 84)).alloc (.cells #[.string ⟨#[110]⟩] 9)).alloc (.cells #[.string ⟨#[107]⟩,.int .i64 2,.string ⟨#[]⟩,.string ⟨#[114]⟩,.int .i64 1,.string ⟨#[116]⟩,.string ⟨#[110]⟩,.int .i64 1,.string ⟨#[]⟩] 84)).heap.size from by simp]
  exact bal (Below.refl _ _) _) trivial
 have hN := row1_str ((w.alloc (.cells #[.slice (some ⟨w.heap.size + 1 + 1 + 1 + 1,0,none⟩) 2 2,.slice none 0 0] 38)).alloc (.cells #[.string ⟨#[107]⟩,.int .i64 1,.string ⟨#[]⟩,.string ⟨#[118]⟩,.int .i64 2,.string ⟨#[]⟩,.string ⟨#[110]⟩,.int .i64 1,.string ⟨#[]⟩] 84)).heap.size (w := (((((w.alloc (.cells #[.slice (some ⟨w.heap.size + 1 + 1 + 1 + 1,0,none⟩) 2 2,.slice none 0 0] 38)).alloc (.cells #[.string ⟨#[107]⟩,.int .i64 1,.string ⟨#[]⟩,.string ⟨#[118]⟩,.int .i64 2,.string ⟨#[]⟩,.string ⟨#[110]⟩,.int .i64 1,.string ⟨#[]⟩] 84)).alloc (.cells #[.string ⟨#[110]⟩] 9)).alloc (.cells #[.string ⟨#[107]⟩,.int .i64 2,.string ⟨#[]⟩,.string ⟨#[114]⟩,.int .i64 1,.string ⟨#[116]⟩,.string ⟨#[110]⟩,.int .i64 1,.string ⟨#[]⟩] 84)).alloc (.cells #[.string ⟨#[116]⟩,.slice (some ⟨w.heap.size + 1,0,none⟩) 3 3,.slice (some ⟨w.heap.size + 1 + 1,0,none⟩) 1 1,.string ⟨#[117]⟩,.slice (some ⟨w.heap.size + 1 + 1 + 1,0,none⟩) 3 3,.slice none 0 0] 58))) (x := ⟨#[110]⟩) (cell_later (bal (bal (Below.refl _ (((w.alloc (.cells #[.slice (some ⟨w.heap.size + 1 + 1 + 1 + 1,0,none⟩) 2 2,.slice none 0 0] 38)).alloc (.cells #[.string ⟨#[107]⟩,.int .i64 1,.string ⟨#[]⟩,.string ⟨#[118]⟩,.int .i64 2,.string ⟨#[]⟩,.string ⟨#[110]⟩,.int .i64 1,.string ⟨#[]⟩] 84)).alloc (.cells #[.string ⟨#[110]⟩] 9))) (.cells #[.string ⟨#[107]⟩,.int .i64 2,.string ⟨#[]⟩,.string ⟨#[114]⟩,.int .i64 1,.string ⟨#[116]⟩,.string ⟨#[110]⟩,.int .i64 1,.string ⟨#[]⟩] 84)) (.cells #[.string ⟨#[116]⟩,.slice (some ⟨w.heap.size + 1,0,none⟩) 3 3,.slice (some ⟨w.heap.size + 1 + 1,0,none⟩) 1 1,.string ⟨#[117]⟩,.slice (some ⟨w.heap.size + 1 + 1 + 1,0,none⟩) 3 3,.slice none 0 0] 58)) (cell_new ((w.alloc (.cells #[.slice (some ⟨w.heap.size + 1 + 1 + 1 + 1,0,none⟩) 2 2,.slice none 0 0] 38)).alloc (.cells #[.string ⟨#[107]⟩,.int .i64 1,.string ⟨#[]⟩,.string ⟨#[118]⟩,.int .i64 2,.string ⟨#[]⟩,.string ⟨#[110]⟩,.int .i64 1,.string ⟨#[]⟩] 84)) #[.string ⟨#[110]⟩] 9 (0,0) 0))
 have hc := cell_new ((((w.alloc (.cells #[.slice (some ⟨w.heap.size + 1 + 1 + 1 + 1,0,none⟩) 2 2,.slice none 0 0] 38)).alloc (.cells #[.string ⟨#[107]⟩,.int .i64 1,.string ⟨#[]⟩,.string ⟨#[118]⟩,.int .i64 2,.string ⟨#[]⟩,.string ⟨#[110]⟩,.int .i64 1,.string ⟨#[]⟩] 84)).alloc (.cells #[.string ⟨#[110]⟩] 9)).alloc (.cells #[.string ⟨#[107]⟩,.int .i64 2,.string ⟨#[]⟩,.string ⟨#[114]⟩,.int .i64 1,.string ⟨#[116]⟩,.string ⟨#[110]⟩,.int .i64 1,.string ⟨#[]⟩] 84)) #[.string ⟨#[116]⟩,.slice (some ⟨w.heap.size + 1,0,none⟩) 3 3,.slice (some ⟨w.heap.size + 1 + 1,0,none⟩) 1 1,.string ⟨#[117]⟩,.slice (some ⟨w.heap.size + 1 + 1 + 1,0,none⟩) 3 3,.slice none 0 0] 58 (0,0)
 simp only [World.size_alloc] at hT hU hc hN
 refine ⟨_,2,2,rfl,rfl,Nat.le_refl _,by omega,fun _ => ⟨_,0,rfl,trivial,fun i hi => ?_⟩⟩
 have hi' : i < 2 := hi
 match i,hi' with
 | 0,_ => exact ⟨[.string ⟨#[116]⟩,.slice (some ⟨w.heap.size + 1,0,none⟩) 3 3,.slice (some ⟨w.heap.size + 1 + 1,0,none⟩) 1 1],⟨_,_,_,_,_,_,rfl,hT,hN⟩,rfl,fun j hj => by
   have hj' : j < 3 := hj
   match j,hj' with
   | 0,_ => exact hc 0
   | 1,_ => exact hc 1
   | 2,_ => exact hc 2⟩
 | 1,_ => exact ⟨[.string ⟨#[117]⟩,.slice (some ⟨w.heap.size + 1 + 1 + 1,0,none⟩) 3 3,.slice none 0 0],⟨_,_,_,_,_,_,rfl,hU,RowIs.nil _ _ _⟩,rfl,fun j hj => by
   have hj' : j < 3 := hj
   match j,hj' with
   | 0,_ => exact hc 3
   | 1,_ => exact hc 4
   | 2,_ => exact hc 5⟩

end Go.Proofs.YtljmlacnfnmjbaaGreat
namespace Go.Proofs.YtljmlacnfnmjbaaGreat
open Go.RowKit
set_option linter.unusedVariables false
set_option linter.unusedSimpArgs false

theorem SlF.nil (Q : Nat → Prop) (w : World) : SlF Q w none 0 0 .nil := ⟨rfl,Nat.le_refl _,by omega,fun h => absurd h (Nat.lt_irrefl _)⟩
/-- Rows of one,of two expressions,as forests. -/
theorem slF1 {w : World} {b : Nat} {p : Pg} {l : Tg} {ea : Option Addr} {en ec : Nat} (h : Ce w b 0 p.1 p.2 (.slice ea en ec)) (hs : SlF (fun _ => True) w ea en ec l) : SlF (fun _ => True) w (some ⟨b,0,none⟩) 1 1 (.node 0 0 p l .nil) :=
 ⟨rfl,Nat.le_refl _,by omega,fun _ => ⟨b,0,rfl,trivial,⟨ea,en,ec,h,hs⟩,trivial⟩⟩
theorem slF2 {w : World} {b : Nat} {p q : Pg} {l r : Tg} {ea : Option Addr} {en ec : Nat} {fa : Option Addr} {fn fc : Nat} (h : Ce w b 0 p.1 p.2 (.slice ea en ec)) (hs : SlF (fun _ => True) w ea en ec l) (h' : Ce w b 7 q.1 q.2 (.slice fa fn fc)) (hs' : SlF (fun _ => True) w fa fn fc r) : SlF (fun _ => True) w (some ⟨b,0,none⟩) 2 2 (.node 0 0 p l (.node 0 0 q r .nil)) :=
 ⟨rfl,Nat.le_refl _,by omega,fun _ => ⟨b,0,rfl,trivial,⟨ea,en,ec,h,hs⟩,⟨fa,fn,fc,by simpa using h',hs'⟩,trivial⟩⟩
abbrev nP : Pay := (0,0,⟨#[]⟩,⟨#[]⟩,⟨#[]⟩)
abbrev litP (k i : Int) : Pg := (1,k,i,⟨#[]⟩,⟨#[]⟩,⟨#[]⟩)
abbrev xEq : Pg × Tg := ((8,nP),.node 0 0 (litP 1 1) .nil (.node 0 0 (litP 1 1) .nil .nil))
abbrev xNot : Pg × Tg := ((4,nP),.node 0 0 (litP 1 1) .nil .nil)
theorem kd_eq : kdT (pairP [] []) xEq = (3,0) := by decide +kernel
theorem kd_not : kdT (pairP [] []) xNot = (0,11) := by decide +kernel
abbrev qSel : Sq := ⟨6,⟨#[113]⟩,⟨#[]⟩,[],[],⟨#[]⟩,[],[],[]⟩
theorem chk_q : (if formP qSel 0 then selP tbs qSel else 1) = 9 := by decide +kernel
abbrev sSel : Sv := ⟨6,⟨#[113]⟩,⟨#[]⟩,(none,0,0),(none,0,0),(none,0,0),(none,0,0),⟨#[]⟩,(none,0,0),(none,0,0),(none,0,0),false,(none,0,0)⟩
theorem isQ_q (w : World) : IsQ w qSel sSel := ⟨rfl,rfl,rfl,rfl,RowIs.nil _ _ _,RowIs.nil _ _ _,RowIs.nil _ _ _,RowIs.nil _ _ _,RowIs.nil _ _ _⟩
theorem sqB_q : SqB qSel := ⟨by simp,by simp,by simp,by simp,by simp⟩
theorem fromC_tbs (m : Sq) : (fromC tbs m).length ≤ 500 := by
 have h2 : ∀ n t,lookT tbs n = some t → (colsT t).length = 3 := by
  intro n t h
  have := lookT_mem h
  simp only [List.mem_cons,List.not_mem_nil,or_false] at this
  rcases this with rfl | rfl <;> rfl
 have h1 : ∀ l : List ByteArray,(overC tbs l).length ≤ 3 * l.length := by
  intro l
  induction l with
  | nil => simp [overC]
  | cons n l ih =>
   unfold overC at ih ⊢
   cases h : lookT tbs n with
   | none => simp only [List.filterMap_cons,h,List.length_cons]; omega
   | some t => simp only [List.filterMap_cons,h,List.flatMap_cons,List.length_append,List.length_cons,h2 n t h]; omega
 have := h1 (namesP m)
 unfold fromC
 have h3 : (namesP m).length ≤ 2 := by unfold namesP; split <;> simp
 omega

set_option maxRecDepth 100000 in
set_option maxHeartbeats 4000000 in
theorem begun10_any (w : World) : Calls Tryz.prog 9 #[] w fun e w' => e = .returned (.bool true) ∧ Below w.heap.size w w' := by
 have hw := bal (Below.refl w.heap.size w) (.cells #[.int .i64 1,.int .i64 1,.int .i64 1,.string ⟨#[]⟩,.string ⟨#[]⟩,.string ⟨#[]⟩,.slice none 0 0] 28)
 have bx := Bk.new w (.cells #[.int .i64 1,.int .i64 1,.int .i64 1,.string ⟨#[]⟩,.string ⟨#[]⟩,.string ⟨#[]⟩,.slice none 0 0] 28)
 have HK1 : Hid (∀ w1 : World,Calls Tryz.prog 11 #[.slice none 0 0,.slice none 0 0,.agg #[.int .i64 8,.int .i64 0,.int .i64 0,.string ⟨#[]⟩,.string ⟨#[]⟩,.string ⟨#[]⟩,.slice (some ⟨w1.heap.size,0,none⟩) 2 2]] (w1.alloc (.cells #[.int .i64 1,.int .i64 1,.int .i64 1,.string ⟨#[]⟩,.string ⟨#[]⟩,.string ⟨#[]⟩,.slice none 0 0,.int .i64 1,.int .i64 1,.int .i64 1,.string ⟨#[]⟩,.string ⟨#[]⟩,.string ⟨#[]⟩,.slice none 0 0] 28)) fun en w' => en = .returned (.tuple #[.int .i64 3,.int .i64 0]) ∧ Below (w1.alloc (.cells #[.int .i64 1,.int .i64 1,.int .i64 1,.string ⟨#[]⟩,.string ⟨#[]⟩,.string ⟨#[]⟩,.slice none 0 0,.int .i64 1,.int .i64 1,.int .i64 1,.string ⟨#[]⟩,.string ⟨#[]⟩,.string ⟨#[]⟩,.slice none 0 0] 28)).heap.size (w1.alloc (.cells #[.int .i64 1,.int .i64 1,.int .i64 1,.string ⟨#[]⟩,.string ⟨#[]⟩,.string ⟨#[]⟩,.slice none 0 0,.int .i64 1,.int .i64 1,.int .i64 1,.string ⟨#[]⟩,.string ⟨#[]⟩,.string ⟨#[]⟩,.slice none 0 0] 28)) w') := hid fun w1 => by
  have hc2 := cell_new w1 #[.int .i64 1,.int .i64 1,.int .i64 1,.string ⟨#[]⟩,.string ⟨#[]⟩,.string ⟨#[]⟩,.slice none 0 0,.int .i64 1,.int .i64 1,.int .i64 1,.string ⟨#[]⟩,.string ⟨#[]⟩,.string ⟨#[]⟩,.slice none 0 0] 28 (0,0)
  have h := Kind_any (C := []) (K := []) (by simp) xEq (Q := fun _ => True) (w := w1.alloc (.cells #[.int .i64 1,.int .i64 1,.int .i64 1,.string ⟨#[]⟩,.string ⟨#[]⟩,.string ⟨#[]⟩,.slice none 0 0,.int .i64 1,.int .i64 1,.int .i64 1,.string ⟨#[]⟩,.string ⟨#[]⟩,.string ⟨#[]⟩,.slice none 0 0] 28)) (RowIs.nil eItem _ _) (RowIs.nil eInt _ _) (cs := exC 8 nP (.slice (some ⟨w1.heap.size,0,none⟩) 2 2))
   ⟨_,_,_,rfl,slF2 (p := litP 1 1) (q := litP 1 1) (show Ce (w1.alloc (.cells #[.int .i64 1,.int .i64 1,.int .i64 1,.string ⟨#[]⟩,.string ⟨#[]⟩,.string ⟨#[]⟩,.slice none 0 0,.int .i64 1,.int .i64 1,.int .i64 1,.string ⟨#[]⟩,.string ⟨#[]⟩,.string ⟨#[]⟩,.slice none 0 0] 28)) w1.heap.size 0 1 (1,1,⟨#[]⟩,⟨#[]⟩,⟨#[]⟩) (.slice none 0 0) from ⟨hc2 0,hc2 1,hc2 2,hc2 3,hc2 4,hc2 5,hc2 6⟩) (SlF.nil _ _) (show Ce (w1.alloc (.cells #[.int .i64 1,.int .i64 1,.int .i64 1,.string ⟨#[]⟩,.string ⟨#[]⟩,.string ⟨#[]⟩,.slice none 0 0,.int .i64 1,.int .i64 1,.int .i64 1,.string ⟨#[]⟩,.string ⟨#[]⟩,.string ⟨#[]⟩,.slice none 0 0] 28)) w1.heap.size 7 1 (1,1,⟨#[]⟩,⟨#[]⟩,⟨#[]⟩) (.slice none 0 0) from ⟨hc2 7,hc2 8,hc2 9,hc2 10,hc2 11,hc2 12,hc2 13⟩) (SlF.nil _ _)⟩
  rw [kd_eq] at h
  exact h
 have HK2 : Hid (∀ w1 : World,Calls Tryz.prog 11 #[.slice none 0 0,.slice none 0 0,.agg #[.int .i64 4,.int .i64 0,.int .i64 0,.string ⟨#[]⟩,.string ⟨#[]⟩,.string ⟨#[]⟩,.slice (some ⟨w1.heap.size,0,none⟩) 1 1]] (w1.alloc (.cells #[.int .i64 1,.int .i64 1,.int .i64 1,.string ⟨#[]⟩,.string ⟨#[]⟩,.string ⟨#[]⟩,.slice none 0 0] 28)) fun en w' => en = .returned (.tuple #[.int .i64 0,.int .i64 11]) ∧ Below (w1.alloc (.cells #[.int .i64 1,.int .i64 1,.int .i64 1,.string ⟨#[]⟩,.string ⟨#[]⟩,.string ⟨#[]⟩,.slice none 0 0] 28)).heap.size (w1.alloc (.cells #[.int .i64 1,.int .i64 1,.int .i64 1,.string ⟨#[]⟩,.string ⟨#[]⟩,.string ⟨#[]⟩,.slice none 0 0] 28)) w') := hid fun w1 => by
  have hc2 := cell_new w1 #[.int .i64 1,.int .i64 1,.int .i64 1,.string ⟨#[]⟩,.string ⟨#[]⟩,.string ⟨#[]⟩,.slice none 0 0] 28 (0,0)
  have h := Kind_any (C := []) (K := []) (by simp) xNot (Q := fun _ => True) (w := w1.alloc (.cells #[.int .i64 1,.int .i64 1,.int .i64 1,.string ⟨#[]⟩,.string ⟨#[]⟩,.string ⟨#[]⟩,.slice none 0 0] 28)) (RowIs.nil eItem _ _) (RowIs.nil eInt _ _) (cs := exC 4 nP (.slice (some ⟨w1.heap.size,0,none⟩) 1 1))
   ⟨_,_,_,rfl,slF1 (p := litP 1 1) (show Ce (w1.alloc (.cells #[.int .i64 1,.int .i64 1,.int .i64 1,.string ⟨#[]⟩,.string ⟨#[]⟩,.string ⟨#[]⟩,.slice none 0 0] 28)) w1.heap.size 0 1 (1,1,⟨#[]⟩,⟨#[]⟩,⟨#[]⟩) (.slice none 0 0) from ⟨hc2 0,hc2 1,hc2 2,hc2 3,hc2 4,hc2 5,hc2 6⟩) (SlF.nil _ _)⟩
  rw [kd_not] at h
  exact h
 have HS : Hid (∀ w1,_) := hid fun w1 => schemaT_any w1
 have HCk : Hid (∀ (b : Nat) w1,IsT w1 tbs (some ⟨b,0,none⟩) 2 2 → Calls Tryz.prog 15 #[.agg #[.slice (some ⟨b,0,none⟩) 2 2,.slice none 0 0],.agg #[.int .i64 6,.string ⟨#[113]⟩,.string ⟨#[]⟩,.slice none 0 0,.slice none 0 0,.slice none 0 0,.slice none 0 0,.string ⟨#[]⟩,.slice none 0 0,.slice none 0 0,.slice none 0 0,.bool false,.slice none 0 0]] w1 fun en w' => en = .returned (.int .i64 9) ∧ Below w1.heap.size w1 w') := hid fun b w1 hT => by
  have h := check_sel (vb := none) (vm := 0) (vd := 0) sqB_q hT (isQ_q w1) rfl (fromC_tbs _)
  rw [chk_q] at h
  exact h
 go_enter Tryz.func9,Tryz.ntmps9
 go_upto_region 2 with fail
 generalize w.alloc (.cells #[.int .i64 1,.int .i64 1,.int .i64 1,.string ⟨#[]⟩,.string ⟨#[]⟩,.string ⟨#[]⟩,.slice none 0 0] 28) = W at *
 have d0 := bx.cell 0
 have d1 := bx.cell 1
 have d2 := bx.cell 2
 have d3 := bx.cell 3
 have d4 := bx.cell 4
 have d5 := bx.cell 5
 have d6 := bx.cell 6
 simp only [List.getElem?_toArray,List.getElem?_cons_zero,List.getElem?_cons_succ] at d0 d1 d2 d3 d4 d5 d6
 clear bx
 go_wp2_with fail
 refine Calls.mono (HK1.out _) ?_
 rintro e w2 ⟨rfl,hb2⟩
 have hB2 := Below.on (bal (Below.refl _ W) _) hb2
 replace d0 := cell_later hB2 d0
 replace d1 := cell_later hB2 d1
 replace d2 := cell_later hB2 d2
 replace d3 := cell_later hB2 d3
 replace d4 := cell_later hB2 d4
 replace d5 := cell_later hB2 d5
 replace d6 := cell_later hB2 d6
 replace hB2 := Below.on hw hB2
 clear hb2 HK1
 go_wp2_with fail
 refine Calls.mono (HK2.out _) ?_
 rintro e w3 ⟨rfl,hb3⟩
 have hB3 := Below.on hB2 (Below.on (bal (Below.refl _ w2) _) hb3)
 clear hb3 HK2 d0 d1 d2 d3 d4 d5 d6
 go_wp2_with fail
 refine Calls.mono (HS.out _) ?_
 rintro e w4 ⟨b,rfl,hT,-,hb4⟩
 have hB4 := Below.on hB3 hb4
 have HC2 : Hid _ := hid (HCk.out b w4 hT)
 clear hb4 HS HCk hT
 go_wp2_with fail
 refine Calls.mono HC2.out ?_
 rintro e w5 ⟨rfl,hb5⟩
 clear HC2
 go_wp2
 go_ret
 exact ⟨rfl,Below.on hB4 hb5⟩

end Go.Proofs.YtljmlacnfnmjbaaGreat
namespace Go.Proofs.YtljmlacnfnmjbaaGreat
open Go.RowKit
set_option linter.unusedVariables false
set_option linter.unusedSimpArgs false

abbrev C0 : Cl2 := [((0,⟨#[116]⟩,⟨#[107]⟩),1),((0,⟨#[116]⟩,⟨#[118]⟩),2),((0,⟨#[116]⟩,⟨#[110]⟩),1)]
abbrev S0 : List Cl3 := pairP (C0.map Prod.fst) (C0.map Prod.snd)
/-- An expression alone in another,twice in another. -/
abbrev inOne (op : Int) (x : Pg × Tg) : Pg × Tg := ((op,nP),.node 0 0 x.1 x.2 .nil)
abbrev inTwo (op : Int) (x : Pg × Tg) : Pg × Tg := ((op,nP),.node 0 0 x.1 x.2 (.node 0 0 x.1 x.2 .nil))
set_option maxRecDepth 100000 in
set_option maxHeartbeats 1000000 in
theorem made10_any {w : World} {a : Option Addr} {len cap : Nat} (h1 : len ≤ cap) (h2 : cap ≤ 9223372036854775807) (h3 : Nums w w.heap.size a len) :
  Calls Tryz.prog 18 #[.slice a len cap] w fun e w' => e = .returned (.pointer (some ⟨w.heap.size,0,none⟩)) ∧ Pk w' w.heap.size len ∧ Below w.heap.size w w' := by
 have hb := bal (Below.refl _ w) (.cells #[.slice a len cap,.int .i64 ((0 : Nat) : Int)] 86)
 have hp : Pk (w.alloc (.cells #[.slice a len cap,.int .i64 ((0 : Nat) : Int)] 86)) w.heap.size len := ⟨a,len,cap,0,⟨heap_alloc_new w _⟩,by omega,h1,h2,h3.keep (by have := hb.size; omega) fun k hk => hb.block k hk⟩
 have T : Hid _ := hid (And.intro hp hb)
 clear hp hb h3
 go_enter Tryz.func18,Tryz.ntmps18
 go_wp2
 go_ret
 exact ⟨rfl,T.out.1,T.out.2⟩
theorem nums10_of {w : World} {a : Option Addr} {len cap : Nat} {xs : List Int} (h : Rd .u8 w a len cap xs) (hx : ∀ x ∈ xs,0 ≤ x ∧ x ≤ 255) : Nums w w.heap.size a len := fun hp => by
 obtain ⟨b,o,ha,hc⟩ := h.cells hp
 have hb : b < w.heap.size := World.block_lt_of_cell? _ _ (hc 0 hp)
 refine ⟨b,o,ha,hb,hb,fun k hk => ?_⟩
 have hk' : k < xs.length := by rw [h.len]; exact hk
 have hm : nth xs k ∈ xs := by rw [nth,List.getElem?_eq_getElem hk']; exact List.getElem_mem _
 exact ⟨nth xs k,(hx _ hm).1,(hx _ hm).2,hc k hk⟩
end Go.Proofs.YtljmlacnfnmjbaaGreat
