import Derived.Test.YtljmlacnfnmjbaaGreatTmbm
import Derived.Test.YtljmlacnfnmjbaaGreatTmao
import Derived.Test.YtljmlacnfnmjbaaGreatTmaz
import Derived.Test.YtljmlacnfnmjbaaGreatTmaa
import Derived.ProofKit
import Derived.OpenShut
import Derived.ShutString
import Derived.ChangeOld
import Derived.Below
import Derived.Deep.Strs
import Derived.ChangeMaps5
namespace Go.Proofs.YtljmlacnfnmjbaaGreat
open Go.RowKit
set_option linter.unusedVariables false
set_option linter.unusedSimpArgs false

def sqOf (x : Sm) : Sq := ⟨x.kind,x.table,x.name,x.values.map gP,x.items,x.join,x.on.map gP,x.wh.map gP,x.order.map gP⟩
theorem isQ_of {Q : Nat → Prop} {w : World} {x : Sm} {s : Sv} (h : IsS Q w x s) : IsQ w (sqOf x) s := by
 have h := h.mono (Q' := fun _ => True) fun _ _ _ => trivial
 exact ⟨h.k,h.tb,h.nm,h.jn,row_g h.va,h.it,row_g h.on,row_g h.wh,row_g h.od⟩
theorem upd_of {t : Tbl} {m : Sq} {k : Nat} {c : Int} (h1 : clmK (colsT t) ⟨#[]⟩ m.name = (c,0)) (h2 : fidx (fun c => eqS c.1 m.name) t.cols = (k : Int)) (h3 : ((t.cols[k]?).getD (⟨#[]⟩,0,⟨#[]⟩)).2.1 = c) : updT t m = updD t m := by
 unfold updT updD
 rw [h1,h2,if_neg (by simp),if_neg (show ¬ ((k : Int) < 0) by omega)]
 simp only [Int.toNat_natCast,h3]
theorem upd_no {t : Tbl} {m : Sq} (h1 : clmK (colsT t) ⟨#[]⟩ m.name = (0,10)) (h2 : fidx (fun c => eqS c.1 m.name) t.cols = -1) : updT t m = updD t m := by
 unfold updT updD
 rw [h1,h2]
 rfl
theorem upd_T (m : Sq) : updT tbT m = updD tbT m := by
 by_cases h1 : m.name = ⟨#[107]⟩
 ·exact upd_of (k := 0) (c := 1) (by rw [h1]; decide +kernel) (by rw [h1]; decide +kernel) rfl
 by_cases h2 : m.name = ⟨#[118]⟩
 ·exact upd_of (k := 1) (c := 2) (by rw [h2]; decide +kernel) (by rw [h2]; decide +kernel) rfl
 by_cases h3 : m.name = ⟨#[110]⟩
 ·exact upd_of (k := 2) (c := 1) (by rw [h3]; decide +kernel) (by rw [h3]; decide +kernel) rfl
 have e1 : eqS ⟨#[107]⟩ m.name = false := by unfold eqS; simpa using fun h => h1 h.symm
 have e2 : eqS ⟨#[118]⟩ m.name = false := by unfold eqS; simpa using fun h => h2 h.symm
 have e3 : eqS ⟨#[110]⟩ m.name = false := by unfold eqS; simpa using fun h => h3 h.symm
 refine upd_no ?_ ?_
 ·unfold clmK colsT clmIs
  simp only [List.map_cons,List.map_nil,List.filter_cons,e1,e2,e3,Bool.false_and,List.filter_nil,Bool.false_eq_true,if_false]
 ·unfold fidx
  simp [List.findIdx_cons,e1,e2,e3]
theorem upd_U (m : Sq) : updT tbU m = updD tbU m := by
 by_cases h1 : m.name = ⟨#[107]⟩
 ·exact upd_of (k := 0) (c := 2) (by rw [h1]; decide +kernel) (by rw [h1]; decide +kernel) rfl
 by_cases h2 : m.name = ⟨#[114]⟩
 ·exact upd_of (k := 1) (c := 1) (by rw [h2]; decide +kernel) (by rw [h2]; decide +kernel) rfl
 by_cases h3 : m.name = ⟨#[110]⟩
 ·exact upd_of (k := 2) (c := 1) (by rw [h3]; decide +kernel) (by rw [h3]; decide +kernel) rfl
 have e1 : eqS ⟨#[107]⟩ m.name = false := by unfold eqS; simpa using fun h => h1 h.symm
 have e2 : eqS ⟨#[114]⟩ m.name = false := by unfold eqS; simpa using fun h => h2 h.symm
 have e3 : eqS ⟨#[110]⟩ m.name = false := by unfold eqS; simpa using fun h => h3 h.symm
 refine upd_no ?_ ?_
 ·unfold clmK colsT clmIs
  simp only [List.map_cons,List.map_nil,List.filter_cons,e1,e2,e3,Bool.false_and,List.filter_nil,Bool.false_eq_true,if_false]
 ·unfold fidx
  simp [List.findIdx_cons,e1,e2,e3]

/-- The play's tables,both or the first alone. -/
def Tbs (T : List Tbl) : Prop := T = tbs ∨ T = [tbT]
theorem Tbs.mem {T : List Tbl} (h : Tbs T) {t : Tbl} (ht : t ∈ T) : t = tbT ∨ t = tbU := by
 rcases h with rfl | rfl
 ·simpa using ht
 ·exact .inl (by simpa using ht)
theorem upd_eq {T : List Tbl} (h : Tbs T) (m : Sq) : updP T m = updDP T m := by
 unfold updP updDP
 cases hl : lookT T m.table with
 | none => rfl
 | some t =>
  rcases h.mem (lookT_mem hl) with rfl | rfl
  ·exact upd_T m
  ·exact upd_U m
theorem Tbs.fromC {T : List Tbl} (h : Tbs T) (m : Sq) : (fromC T m).length ≤ 500 := by
 have h2 : ∀ n t,lookT T n = some t → (colsT t).length = 3 := by
  intro n t hl
  rcases h.mem (lookT_mem hl) with rfl | rfl <;> rfl
 have h1 : ∀ l : List ByteArray,(overC T l).length ≤ 3 * l.length := by
  intro l
  induction l with
  | nil => simp [overC]
  | cons n l ih =>
   unfold overC at ih ⊢
   cases h : lookT T n with
   | none => simp only [List.filterMap_cons,h,List.length_cons]; omega
   | some t => simp only [List.filterMap_cons,h,List.flatMap_cons,List.length_append,List.length_cons,h2 n t h]; omega
 have := h1 (namesP m)
 unfold Go.Proofs.YtljmlacnfnmjbaaGreat.fromC
 have h3 : (namesP m).length ≤ 2 := by unfold namesP; split <;> simp
 omega
/-- What the walk wants of a statement of the play: its kind,and lists that are not too long. -/
def Kinds (k : Int) : Prop := k = 1 ∨ k = 2 ∨ k = 5 ∨ k = 6 ∨ k = 7 ∨ k = 8 ∨ k = 9 ∨ k = 10 ∨ k = 11 ∨ k = 12 ∨ k = 13
def Few (x : Sm) : Prop := Kinds x.kind ∧ SqB (sqOf x)
theorem WhOK.few {C : Cl2} {l : List Tr} (h : WhOK C l) : l.length ≤ 1 := by
 rcases h with rfl | ⟨t,rfl,_⟩ <;> simp
theorem sel_few {tb : Tab} {m : Sm} (h : SelOK tb m) : Few m := by
 obtain ⟨C,its,j,on,wh,od,d,folds,h1,h2,h3,h4,rfl⟩ := h
 have hw := h2.few
 refine ⟨by simp [Kinds],⟨?_,?_,?_,?_,?_⟩⟩
 ·simp [sqOf]
 ·show its.length ≤ 500
  rcases h3 with ⟨h,_⟩ | ⟨l',rfl,h,_⟩
  ·omega
  ·simp only [List.length_cons]; omega
 ·show (on.map gP).length ≤ 500
  rw [List.length_map]
  rcases h1 with ⟨_,_,rfl⟩ | ⟨_,_,k,a1,n1,a2,n2,_,_,_,rfl⟩ <;> simp
 ·show (wh.map gP).length ≤ 500
  rw [List.length_map]; omega
 ·show (od.map gP).length ≤ 500
  rw [List.length_map]
  rcases h4 with ⟨rfl,_⟩ | ⟨_,k,tb,nm,_,_,rfl⟩ <;> simp
theorem data_few {m : Sm} (h : DataOK m) : Few m := by
 obtain ⟨tb,htb,h⟩ := h
 rcases h with ⟨vs,hl,-,rfl⟩ | ⟨nm,t,wh,-,hw,rfl⟩ | ⟨wh,hw,rfl⟩ | h
 ·refine ⟨by simp [Kinds],⟨?_,?_,?_,?_,?_⟩⟩
  ·show (vs.map gP).length ≤ 500
   rw [List.length_map,hl]
   rcases htb with rfl | rfl <;> decide
  all_goals simp [sqOf]
 ·have := hw.few
  refine ⟨by simp [Kinds],⟨?_,?_,?_,?_,?_⟩⟩
  ·simp [sqOf]
  ·simp [sqOf]
  ·simp [sqOf]
  ·show (wh.map gP).length ≤ 500
   rw [List.length_map]; omega
  ·simp [sqOf]
 ·have := hw.few
  refine ⟨by simp [Kinds],⟨?_,?_,?_,?_,?_⟩⟩
  ·simp [sqOf]
  ·simp [sqOf]
  ·simp [sqOf]
  ·show (wh.map gP).length ≤ 500
   rw [List.length_map]; omega
  ·simp [sqOf]
 ·exact sel_few h
theorem st_few {m : Sf} (h : StOK m) : (m.2 = [] ∧ Few m.1) ∨ ∃ x,m.2 = [x] ∧ (m.1.kind = 3 ∨ m.1.kind = 4) ∧ SqB (sqOf m.1) ∧ Few x := by
 rcases h with ⟨n,cs,-,-,-,-,rfl⟩ | ⟨tb,n,-,-,rfl⟩ | ⟨n,tg,x,tb,-,-,-,hx,rfl⟩ | ⟨n,tg,x,-,-,hx,-,rfl⟩ | ⟨k,hk,rfl⟩ | ⟨tg,-,-,-,rfl⟩ | ⟨n,-,rfl⟩ | ⟨x,hx,rfl⟩
 ·exact .inl ⟨rfl,by simp [Kinds],by constructor <;> simp [sqOf]⟩
 ·exact .inl ⟨rfl,by simp [Kinds],by constructor <;> simp [sqOf]⟩
 ·exact .inr ⟨x,rfl,.inl rfl,by constructor <;> simp [sqOf],sel_few hx⟩
 ·exact .inr ⟨x,rfl,.inr rfl,by constructor <;> simp [sqOf],data_few hx⟩
 ·exact .inl ⟨rfl,by rcases hk with rfl | rfl | rfl <;> simp [Kinds,sm],by constructor <;> simp [sqOf,sm]⟩
 ·exact .inl ⟨rfl,by simp [Kinds],by constructor <;> simp [sqOf]⟩
 ·exact .inl ⟨rfl,by simp [Kinds],by constructor <;> simp [sqOf]⟩
 ·exact .inl ⟨rfl,data_few hx⟩

end Go.Proofs.YtljmlacnfnmjbaaGreat
namespace Go.Proofs.YtljmlacnfnmjbaaGreat
open Go.RowKit
set_option linter.unusedVariables false
set_option linter.unusedSimpArgs false

/-- Both checks tell the same,in every later world. -/
def Agree (w : World) (ta : Option Addr) (tn tc : Nat) (s : Sv) : Prop := ∃ E : Int,∀ w',Below w.heap.size w w' →
 Calls Tryz.prog 15 #[.agg #[.slice ta tn tc,.slice none 0 0],stV s] w' (fun en w'' => en = .returned (.int .i64 E) ∧ Below w'.heap.size w' w'') ∧
 Calls Tryz.prog 16 #[.agg #[.slice ta tn tc,.slice none 0 0],stV s] w' (fun en w'' => en = .returned (.int .i64 E) ∧ Below w'.heap.size w' w'')
theorem Tbs.few {T : List Tbl} (h : Tbs T) : T.length ≤ 500 ∧ ∀ t ∈ T,t.cols.length ≤ 50 :=
 ⟨by rcases h with rfl | rfl <;> simp,fun t ht => by rcases h.mem ht with rfl | rfl <;> simp⟩
theorem agree_one {T : List Tbl} (hTs : Tbs T) {w : World} {ta : Option Addr} {tn tc : Nat} (hT : IsT w T ta tn tc) {x : Sm} {s : Sv} (hx : Few x) {Q : Nat → Prop} (hI : IsS Q w x s) : Agree w ta tn tc s := by
 have hm := isQ_of hI
 obtain ⟨hk,hB⟩ := hx
 obtain ⟨hT5,hT50⟩ := hTs.few
 rcases hk with h | h | h | h | h | h | h | h | h | h | h
 ·exact ⟨0,fun w' hb => ⟨check_1 hB (hT.later hb) (hm.later hb) h,rcheck_1 hB (hT.later hb) (hm.later hb) h⟩⟩
 ·exact ⟨0,fun w' hb => ⟨check_2 hB (hT.later hb) (hm.later hb) h,rcheck_2 hB (hT.later hb) (hm.later hb) h⟩⟩
 ·exact ⟨_,fun w' hb => ⟨check_5 hB (hT.later hb) (hm.later hb) h,rcheck_5 hB (hT.later hb) (hm.later hb) h hT5 hT50⟩⟩
 ·exact ⟨_,fun w' hb => ⟨check_sel hB (hT.later hb) (hm.later hb) h (hTs.fromC _),rcheck_6 hB (hT.later hb) (hm.later hb) h hT5 hT50⟩⟩
 ·exact ⟨_,fun w' hb => ⟨check_upd hB (hT.later hb) (hm.later hb) h,by rw [upd_eq hTs]; exact rcheck_7 hB (hT.later hb) (hm.later hb) h hT5 hT50⟩⟩
 ·exact ⟨_,fun w' hb => ⟨check_8 hB (hT.later hb) (hm.later hb) h,rcheck_8 hB (hT.later hb) (hm.later hb) h hT5 hT50⟩⟩
 ·exact ⟨0,fun w' hb => ⟨check_9 hB (hT.later hb) (hm.later hb) h,rcheck_9 hB (hT.later hb) (hm.later hb) h⟩⟩
 ·exact ⟨0,fun w' hb => ⟨check_10 hB (hT.later hb) (hm.later hb) h,rcheck_10 hB (hT.later hb) (hm.later hb) h⟩⟩
 ·exact ⟨0,fun w' hb => ⟨check_11 hB (hT.later hb) (hm.later hb) h,rcheck_11 hB (hT.later hb) (hm.later hb) h⟩⟩
 ·exact ⟨0,fun w' hb => ⟨check_12 hB (hT.later hb) (hm.later hb) h,rcheck_12 hB (hT.later hb) (hm.later hb) h⟩⟩
 ·have hf : formP (sqOf x) s.inn.2.1 = true := by unfold formP; rw [show (sqOf x).kind = 13 from h]; simp
  refine ⟨22,fun w' hb => ⟨?_,rcheck_13 hB (hT.later hb) (hm.later hb) h⟩⟩
  have := check_13 hB (hT.later hb) (hm.later hb) h
  rwa [hf] at this
theorem agree_in {T : List Tbl} (hTs : Tbs T) {w : World} {ta : Option Addr} {tn tc : Nat} (hT : IsT w T ta tn tc) {y x : Sm} {s : Sv} (hk : y.kind = 3 ∨ y.kind = 4) (hB : SqB (sqOf y)) (hx : Few x) {Q : Nat → Prop} (hI : IsS Q w y s) (hR : RowIs eStmt Q w (slV s.inn) [x]) : Agree w ta tn tc s := by
 have hm := isQ_of hI
 obtain ⟨ia,n,c,e,hl,hn,hc,hi⟩ := hR
 have hl' : 1 = n := hl
 subst hl'
 obtain ⟨ib,io,rfl,-,hi⟩ := hi (by decide)
 obtain ⟨cs,⟨r,rfl,hr,hrn⟩,-,hcc⟩ := hi 0 (by simp)
 have hr' : IsS Q w x r := hr
 have hin : s.inn = (some ⟨ib,io,none⟩,1,c) := by
  unfold slV at e
  injection e with e1 e2 e3
  rw [← e1,← e2,← e3]
 have hir : ∀ w',Below w.heap.size w w' → ∀ j,j < 13 → w'.cell? ⟨ib,io + j,none⟩ = (svC r)[j]? := fun w' hb j hj => by
  have hj' : j < (svC r).length := hj
  have h := hcc j hj'
  rw [Nat.zero_mul,Nat.add_zero] at h
  rw [List.getElem?_eq_getElem hj']
  exact cell_later hb h
 obtain ⟨E,hE⟩ := agree_one hTs hT hx hr'
 rcases hk with hk | hk
 ·exact ⟨E,fun w' hb => ⟨check_3 hB (hT.later hb) (hm.later hb) hk hin ⟨hn,hc⟩ (hir w' hb) (fun w2 hb2 => (hE w2 (Below.on hb hb2)).1),rcheck_3 hB (hT.later hb) (hm.later hb) hk hin ⟨hn,hc⟩ (hir w' hb) (fun w2 hb2 => (hE w2 (Below.on hb hb2)).2)⟩⟩
 ·exact ⟨E,fun w' hb => ⟨check_4 hB (hT.later hb) (hm.later hb) hk hin ⟨hn,hc⟩ (hir w' hb) (fun w2 hb2 => (hE w2 (Below.on hb hb2)).1),rcheck_4 hB (hT.later hb) (hm.later hb) hk hin ⟨hn,hc⟩ (hir w' hb) (fun w2 hb2 => (hE w2 (Below.on hb hb2)).2)⟩⟩
theorem agree_any {T : List Tbl} (hTs : Tbs T) {w : World} {ta : Option Addr} {tn tc : Nat} (hT : IsT w T ta tn tc) {m : Sf} {s : Sv} (hm : StOK m) {Q : Nat → Prop} (hI : IsS Q w m.1 s) (hR : RowIs eStmt Q w (slV s.inn) m.2) : Agree w ta tn tc s := by
 rcases st_few hm with ⟨-,hf⟩ | ⟨x,h2,hk,hB,hf⟩
 ·exact agree_one hTs hT hf hI
 ·exact agree_in hTs hT hk hB hf hI (h2 ▸ hR)
theorem IsT.keepB {w w' : World} {T : List Tbl} {ta : Option Addr} {tn tc : Nat} (h : IsT w T ta tn tc) (hk : ∀ b,b < w.heap.size → w'.heap[b]? = w.heap[b]?) : IsT w' T ta tn tc := ⟨h.row.keep (by decide) fun b _ hl => hk b hl,h.bd,h.ne⟩
theorem slice_tabs {ao : Option Addr} {n c r : Nat} (hr : r ≤ n) (hc : n ≤ c) (w' : World) : (Instr.slice 35 (.slice ao n c) none (some (.int .i64 r)) none).run Tryz.prog w' = .ok (.slice ao r c) w' := by
 have e0 : ∀ a : Addr,a.add 0 = a := fun a => by unfold Addr.add; simp
 have hrc : r ≤ c := by omega
 have hrc' : (r : Int) ≤ (c : Int) := by omega
 cases ao with
 | none => go_simp
 | some a => go_simp
theorem isT_one {w : World} {b : Nat} (h : IsT w tbs (some ⟨b,0,none⟩) 2 2) : IsT w [tbT] (some ⟨b,0,none⟩) 1 2 := by
 refine ⟨h.row.take (r := 1) (by decide),?_,?_⟩
 ·refine ⟨by simp,fun t ht => ?_⟩
  have e : t = tbT := by simpa using ht
  subst e
  exact h.bd.2 _ (by simp)
 ·intro t ht
  have e : t = tbT := by simpa using ht
  subst e
  exact h.ne _ (by simp)
set_option maxRecDepth 100000 in
set_option maxHeartbeats 8000000 in
theorem typedMade_any {a : Option Addr} {len cap : Nat} (n : Nat) (hn : n ≤ 255) (w : World) (h1 : len ≤ cap) (h2 : cap ≤ 9223372036854775807) (h3 : Nums w w.heap.size a len) :
  Calls Tryz.prog 5 #[.slice a len cap,.int .u8 (n : Int)] w fun e w' => e = .returned (.bool true) ∧ Below w.heap.size w w' := by
 have HB : Hid _ := hid (begun10_any w)
 have HSc : Hid (∀ w1,_) := hid fun w1 => schemaT_any w1
 have HNu : Hid (∀ w1 : World,Below w.heap.size w w1 → Nums w1 w1.heap.size a len) := hid fun w1 hb hp => by
  obtain ⟨b,o,ha,hb1,hb2,hz⟩ := h3 hp
  refine ⟨b,o,ha,by have := hb.size; omega,by have := hb.size; omega,fun k hk => ?_⟩
  obtain ⟨z,z1,z2,z3⟩ := hz k hk
  exact ⟨z,z1,z2,cell_later hb z3⟩
 obtain ⟨K,hK⟩ : ∃ R,n % 4 = R := ⟨_,rfl⟩
 have nt : (n : Int).tmod 4 = (K : Int) := by rw [Int.tmod_eq_emod_of_nonneg (by omega)]; omega
 clear h3
 go_enter Tryz.func5,Tryz.ntmps5
 go_wp2_with fail
 refine Calls.mono HB.out ?_
 rintro e w1 ⟨rfl,hb1⟩
 clear HB
 by_cases h50 : 80 < len
 ·have g50 : decide ((80 : Int) < (len : Int)) = true := by simp; omega
  have g51 : decide (80 < len) = true := by simpa using h50
  go_wp2
  go_ret
  exact ⟨rfl,hb1⟩
 have g50 : decide ((80 : Int) < (len : Int)) = false := by simp; omega
 have g51 : decide (80 < len) = false := by simpa using h50
 go_wp2_with fail
 refine Calls.mono (HSc.out _) ?_
 rintro e w2 ⟨b,rfl,hT,hbl,hb2⟩
 have hB2 := Below.on hb1 hb2
 clear HSc hb2 hb1 hbl
 go_upto_region 6 with fail
 have bx := Bk.new w2 (.cells #[.slice (some ⟨b,0,none⟩) 2 2,.slice none 0 0] 38)
 have hb3 := bal (Below.refl w2.heap.size w2) (.cells #[.slice (some ⟨b,0,none⟩) 2 2,.slice none 0 0] 38)
 generalize w2.alloc (.cells #[.slice (some ⟨b,0,none⟩) 2 2,.slice none 0 0] 38) = U at bx hb3 ⊢
 have hBU := Below.on hB2 hb3
 have hT2 := hT
 replace hT := hT.later hb3
 have hp := hB2.size
 have hpl := bx.lt
 have y0 := bx.cell 0
 have y1 := bx.cell 1
 have f0 := bx.free 0
 simp only [List.getElem?_toArray,List.getElem?_cons_zero,List.getElem?_cons_succ] at y0 y1
 have HT : Hid (IsT (U.setCell ⟨w2.heap.size,0,none⟩ (.slice (some ⟨b,0,none⟩) 1 2)) [tbT] (some ⟨b,0,none⟩) 1 2 ∧ (U.setCell ⟨w2.heap.size,0,none⟩ (.slice (some ⟨b,0,none⟩) 1 2)).cell? ⟨w2.heap.size,0,none⟩ = some (.slice (some ⟨b,0,none⟩) 1 2) ∧ (U.setCell ⟨w2.heap.size,0,none⟩ (.slice (some ⟨b,0,none⟩) 1 2)).cell? ⟨w2.heap.size,1,none⟩ = some (.slice none 0 0) ∧ Below w.heap.size w (U.setCell ⟨w2.heap.size,0,none⟩ (.slice (some ⟨b,0,none⟩) 1 2))) := hid ⟨isT_one (hT2.keepB fun k hk => (Below.heap_setCell _ _ _ _ (show k ≠ w2.heap.size from Nat.ne_of_lt hk)).trans (hb3.block k hk)),World.cell?_setCell_same _ _ _ y0,(World.cell?_setCell_other _ _ _ _ (by intro h; simp at h)).trans y1,hBU.setCell (by show w.heap.size ≤ w2.heap.size; omega) _⟩
 have hsl := slice_tabs (ao := some ⟨b,0,none⟩) (n := 2) (c := 2) (r := 1) (by decide) (by decide)
 generalize w2.heap.size = p at *
 clear bx hb3 hB2 hT2
 go_upto_if 15 with fail
 go_cut [] (fun w' => ∃ T tn,Tbs T ∧ IsT w' T (some ⟨b,0,none⟩) tn 2 ∧ w'.cell? ⟨p,0,none⟩ = some (.slice (some ⟨b,0,none⟩) tn 2) ∧ w'.cell? ⟨p,1,none⟩ = some (.slice none 0 0) ∧ Below w.heap.size w w')
 case first =>
  by_cases hK0 : K = 0
  ·subst hK0
   have HT' : Hid _ := HT
   clear hT HT
   go_wp2_with fail
   go_meet
   exact ⟨[tbT],1,.inr rfl,HT'.out⟩
  ·have q1 : ((K : Int) == 0) = false := by simp; omega
   have q2 : decide ((K : Int) = 0) = false := by simp; omega
   clear HT
   go_wp2_with fail
   go_meet
   exact ⟨tbs,2,.inl rfl,hT,y0,y1,hBU⟩
 case rest =>
 clear y0 y1 hT hBU HT f0
 obtain ⟨T,tn,hTs,hT,y0,y1,hB⟩ := hcut
 have HM : Hid _ := hid (made10_any h1 h2 (HNu.out _ hB))
 have hpc := World.block_lt_of_cell? _ _ y0
 clear HNu
 go_upto_region 8 with fail
 go_cut [6] (fun v6 w' => ∃ q s m,v6 = .pointer (some ⟨q,0,none⟩) ∧ Bs w' q s ∧ IsS (fun b => True) w' m.1 s ∧ RowIs eStmt (fun b => True) w' (slV s.inn) m.2 ∧ StOK m ∧ IsT w' T (some ⟨b,0,none⟩) tn 2 ∧ w'.cell? ⟨p,0,none⟩ = some (.slice (some ⟨b,0,none⟩) tn 2) ∧ w'.cell? ⟨p,1,none⟩ = some (.slice none 0 0) ∧ Below w.heap.size w w')
 case first =>
  go_wp2_with fail
  refine Calls.mono HM.out ?_
  rintro e w4 ⟨rfl,hp4,hb4⟩
  have HS : Hid _ := hid (playStmt_any hp4)
  have hB4 := Below.on hB hb4
  have hs4 := hb4.size
  have hs1 := hB.size
  have hT4 := hT.keepB fun k hk => hb4.block k hk
  have HTk : Hid (∀ w' : World,(∀ k,k < wc.heap.size → w'.heap[k]? = w4.heap[k]?) → IsT w' T (some ⟨b,0,none⟩) tn 2 ∧ w'.cell? ⟨p,0,none⟩ = some (.slice (some ⟨b,0,none⟩) tn 2) ∧ w'.cell? ⟨p,1,none⟩ = some (.slice none 0 0)) := hid fun w' hk => ⟨hT.keepB fun k hl => (hk k hl).trans (hb4.block k hl),(World.cell?_of_block ((hk p hpc).trans (hb4.block p hpc))).trans y0,(World.cell?_of_block ((hk p hpc).trans (hb4.block p hpc))).trans y1⟩
  generalize hg : wc.heap.size = g at *
  clear HM hp4 hb4 hB hT hT4 y0 y1
  go_wp2_with fail
  refine Calls.mono HS.out ?_
  rintro e u ⟨s,m,r',rfl,hm,-,-,hb5,hI,hR⟩
  have hB5 : Below w.heap.size w u := hb5.below hB4 (by omega) (by omega)
  have HTu := HTk.out u fun k hk => hb5.block k (by omega) (by omega)
  obtain ⟨sk,stb,snm,sco,sta,sva,sit,sjn,son,swh,sod,sds,sinn⟩ := s
  have T2 := bal (Below.refl _ u) (svO ⟨sk,stb,snm,sco,sta,sva,sit,sjn,son,swh,sod,sds,sinn⟩)
  have TT : Hid _ := hid (And.intro (Bs.new u ⟨sk,stb,snm,sco,sta,sva,sit,sjn,son,swh,sod,sds,sinn⟩) (And.intro ((hI.mono (Q' := fun _ => True) fun _ _ _ => trivial).keep fun b _ hl => T2.block b hl) (And.intro ((hR.mono (by decide) (Q' := fun _ => True) fun _ _ _ => trivial).keep (by decide) fun b _ hl => T2.block b hl) (And.intro (HTu.1.later T2) (And.intro (cell_later T2 HTu.2.1) (And.intro (cell_later T2 HTu.2.2) (Below.on hB5 T2)))))))
  clear HS hb5 hI hR hB4 hB5 T2 HTu HTk
  unfold stV
  dsimp only
  go_wp2_with fail
  go_meet
  exact ⟨_,_,m,rfl,TT.out.1,TT.out.2.1,TT.out.2.2.1,hm,TT.out.2.2.2⟩
 case rest =>
 clear y0 y1 hT hB HM
 obtain ⟨q,s,m,rfl,hq,hI,hR,hm,hT,y0,y1,hB⟩ := hcut
 obtain ⟨E,hE⟩ := agree_any hTs hT hm hI hR
 obtain ⟨sk,stb,snm,sco,sta,sva,sit,sjn,son,swh,sod,sds,sinn⟩ := s
 have H1 : Hid (∀ w',Below wc.heap.size wc w' → _) := hid fun w' hb => (hE w' hb).1
 have H2 : Hid (∀ w',Below wc.heap.size wc w' → _) := hid fun w' hb => (hE w' hb).2
 have cq := hq.cells
 have k0 := cq.1
 have k1 := cq.2.1
 have k2 := cq.2.2.1
 have k3 := cq.2.2.2.1
 have k4 := cq.2.2.2.2.1
 have k5 := cq.2.2.2.2.2.1
 have k6 := cq.2.2.2.2.2.2.1
 have k7 := cq.2.2.2.2.2.2.2.1
 have k8 := cq.2.2.2.2.2.2.2.2.1
 have k9 := cq.2.2.2.2.2.2.2.2.2.1
 have k10 := cq.2.2.2.2.2.2.2.2.2.2.1
 have k11 := cq.2.2.2.2.2.2.2.2.2.2.2.1
 have k12 := cq.2.2.2.2.2.2.2.2.2.2.2.2
 dsimp only [stV] at H1 H2 k0 k1 k2 k3 k4 k5 k6 k7 k8 k9 k10 k11 k12
 clear cq hE hm hI hR hT hq
 have hC : Below wc.heap.size wc wc.drew := (Below.refl _ wc).drew
 have HG : Hid _ := hid hB
 go_upto_region 9 with fail
 go_region_held (fun w' => w'.cell? ⟨p,0,none⟩ = some (.slice (some ⟨b,0,none⟩) tn 2) ∧ w'.cell? ⟨p,1,none⟩ = some (.slice none 0 0) ∧ w'.cell? ⟨q,0,none⟩ = some (.int .i64 sk) ∧ w'.cell? ⟨q,1,none⟩ = some (.string stb) ∧ w'.cell? ⟨q,2,none⟩ = some (.string snm) ∧ w'.cell? ⟨q,3,none⟩ = some (.slice sco.1 sco.2.1 sco.2.2) ∧ w'.cell? ⟨q,4,none⟩ = some (.slice sta.1 sta.2.1 sta.2.2) ∧ w'.cell? ⟨q,5,none⟩ = some (.slice sva.1 sva.2.1 sva.2.2) ∧ w'.cell? ⟨q,6,none⟩ = some (.slice sit.1 sit.2.1 sit.2.2) ∧ w'.cell? ⟨q,7,none⟩ = some (.string sjn) ∧ w'.cell? ⟨q,8,none⟩ = some (.slice son.1 son.2.1 son.2.2) ∧ w'.cell? ⟨q,9,none⟩ = some (.slice swh.1 swh.2.1 swh.2.2) ∧ w'.cell? ⟨q,10,none⟩ = some (.slice sod.1 sod.2.1 sod.2.2) ∧ w'.cell? ⟨q,11,none⟩ = some (.bool sds) ∧ w'.cell? ⟨q,12,none⟩ = some (.slice sinn.1 sinn.2.1 sinn.2.2))
  (exact ⟨cell_later hC y0,cell_later hC y1,cell_later hC k0,cell_later hC k1,cell_later hC k2,cell_later hC k3,cell_later hC k4,cell_later hC k5,cell_later hC k6,cell_later hC k7,cell_later hC k8,cell_later hC k9,cell_later hC k10,cell_later hC k11,cell_later hC k12⟩)
  (first
  | (go_at_call 15; with_reducible refine Calls.mono (H1.out _ hC) ?_; rintro e z1 ⟨rfl,hbz⟩; replace hC := Below.on hC hbz)
  | (go_at_call 16; with_reducible refine Calls.mono (H2.out _ hC) ?_; rintro e z1 ⟨rfl,hbz⟩; replace hC := Below.on hC hbz))
 all_goals
  go_wp2
  go_ret
  exact ⟨ret_bool (by simp),Below.on HG.out hC⟩

end Go.Proofs.YtljmlacnfnmjbaaGreat
namespace Go.Proofs.YtljmlacnfnmjbaaGreat
open Go.ChangeShapes Go.WideShapes Go.ChangeAt Go.RowKit
set_option linter.unusedVariables false

theorem own : ownKnob Tryz.prog.godebug = none := by kernel_rfl
theorem laidOut : laidOutB Tryz.prog = true := by kernel_rfl

/-- A slice of whole numbers that came in: nil,or a row of cells with its spare room. -/
def IsRow (k : IntKind) (w : World) (a : Option Addr) (len cap : Nat) (zs : List Int) : Prop :=
 (a = none ∧ len = 0 ∧ cap = 0 ∧ zs = []) ∨
 ∃ x,a = some x ∧ len ≤ cap ∧ cap ≤ maxLen ∧ zs.length = cap ∧ (∀ i,i < zs.length → w.cell? (x.add i) = some (.int k (zs.getD i 0))) ∧ ∀ n ∈ zs,(Lit.int k n).wf = true

theorem Rd.of_row {k : IntKind} {w : World} {a : Option Addr} {len cap : Nat} {zs : List Int} (h : IsRow k w a len cap zs) : Rd k w a len cap (zs.take len) := by
 rcases h with ⟨rfl,rfl,rfl,rfl⟩ | ⟨x,rfl,hl,hm,hz,hc,hw⟩
 ·exact Rd.nil k w
 ·refine ⟨by simp; omega,hl,hm,fun e => by simp at e,fun hp => ?_⟩
  obtain ⟨b,off,spot⟩ := x
  have h0 := hc 0 (by omega)
  have hspot : spot = none := by simpa [Addr.add] using World.cell?_spot h0
  subst hspot
  refine ⟨b,off,rfl,fun i hi => ?_⟩
  have hi' := hc i (by omega)
  rw [show (⟨b,off,none⟩ : Addr).add i = ⟨b,off + i,none⟩ from by simp [Addr.add]] at hi'
  rw [hi',nth,List.getElem?_take_of_lt hi,List.getD]

/-- Its numbers fit their kind. -/
theorem row_wf {k : IntKind} {w : World} {a : Option Addr} {len cap : Nat} {zs : List Int} (h : IsRow k w a len cap zs) : ∀ n ∈ zs.take len,(Lit.int k n).wf = true := by
 rcases h with ⟨rfl,rfl,rfl,rfl⟩ | ⟨x,rfl,hl,hm,hz,hc,hw⟩
 ·intro n hn; simp at hn
 ·exact fun n hn => hw n (List.mem_of_mem_take hn)

theorem u8_of_row {w : World} {a : Option Addr} {len cap : Nat} {zs : List Int} (h : IsRow .u8 w a len cap zs) : ∀ x ∈ zs.take len,0 ≤ x ∧ x ≤ 255 :=
 fun x hx => bounds_u8 (row_wf h x hx)

/-- A byte that came in. -/
theorem u8_is {a : Int} (h : (Lit.int .u8 a).wf = true) : ∃ x : UInt8,a = (x.toNat : Int) := by
 have := bounds_u8 h
 refine ⟨UInt8.ofNat a.toNat,?_⟩
 rw [UInt8.toNat_ofNat']
 omega

end Go.Proofs.YtljmlacnfnmjbaaGreat
