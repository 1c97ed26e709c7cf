import Derived.Test.YtnboooaockgoiaaGreatDoorAak
import Derived.Test.YtnboooaockgoiaaGreatDoorAam
import Derived.Test.YtnboooaockgoiaaGreatDoorAab
import Derived.Lib.AppendIntMem
import Derived.Test.YtnboooaockgoiaaGreatDoorAac
namespace Go.Proofs.YtnboooaockgoiaaGreatDoor
open Go.RowKit
set_option linter.unusedVariables false
set_option linter.unusedSimpArgs false

/-- A writer's state: what is written, and whether a word that comes now has a space ahead of it. -/
abbrev Ws := List Int × Bool
def spS (s : Ws) : Ws := (if s.2 = true then s.1 ++ [32] else s.1, true)
def puS (L : List ByteArray) (s : Ws) : Ws := (s.1 ++ catN L, s.2)
def woS (t : ByteArray) (s : Ws) : Ws := puS [t] (spS s)
def wosS (L : List ByteArray) (s : Ws) : Ws := L.foldl (fun s t => woS t s) s
def opS (s : Ws) : Ws := (s.1 ++ [40], false)
def clS (s : Ws) : Ws := (s.1 ++ [41], true)
/-- What a writing tells, by states. -/
def TeS2 (g : Nat) (v : Sl) (w : World) (s : Ws) (e : Ending) (w' : World) : Prop := TeW g v w s.1 s.2 e w'
theorem WPs.one (w : World) (t : ByteArray) : WPs (w.alloc (.cells #[.string t] 9)) w.heap.size 0 [t] := ⟨fun i hi => by
  have hi' : i < 1 := hi
  obtain rfl : i = 0 := by omega
  exact cell_new w _ _ _ 0⟩
theorem WPs.two (w : World) (t u : ByteArray) : WPs (w.alloc (.cells #[.string t, .string u] 9)) w.heap.size 0 [t, u] := ⟨fun i hi => by
  have hi' : i < 2 := hi
  match i, hi' with
  | 0, _ => exact cell_new w _ _ _ 0
  | 1, _ => exact cell_new w _ _ _ 1⟩
theorem WPs.three (w : World) (t u x : ByteArray) : WPs (w.alloc (.cells #[.string t, .string u, .string x] 9)) w.heap.size 0 [t, u, x] := ⟨fun i hi => by
  have hi' : i < 3 := hi
  match i, hi' with
  | 0, _ => exact cell_new w _ _ _ 0
  | 1, _ => exact cell_new w _ _ _ 1
  | 2, _ => exact cell_new w _ _ _ 2⟩
theorem WUp.box {g : Nat} {v : Sl} {w w' : World} {o : Obj} (h : WUp g v (w.alloc o) w') : WUp g v w w' :=
  ⟨h.os, h.tape, h.output, by have := h.size; simp at this; omega, fun k hk hg hv => (h.block k (by simp; omega) hg hv).trans ((bal (Below.refl _ w) o).block k hk)⟩
theorem WKp.box {v v' : Sl} {w : World} {o : Obj} (h : WKp v v' (w.alloc o).heap.size) : WKp v v' w.heap.size := by
  rcases h with h | ⟨b, e, hb⟩
  · exact .inl h
  · exact .inr ⟨b, e, by simp at hb; omega⟩
theorem TeW.box {g : Nat} {v : Sl} {w : World} {l : List Int} {sp : Bool} {o : Obj} {e : Ending} {w' : World} (h : TeW g v (w.alloc o) l sp e w') : TeW g v w l sp e w' := by
  obtain ⟨v', h1, h2, h3, h4⟩ := h
  exact ⟨v', h1, h2, h3.box, h4.box⟩
/-- put at a row of pieces that was just made. -/
theorem put1 {g : Nat} {v : Sl} {l : List Int} {sp : Bool} {w : World} (h : Wt w g v l sp) (t : ByteArray) (hz : l.length + (catN [t]).length ≤ 1000000) :
    Calls Tryz.prog 78 #[.pointer (some ⟨g, 0, none⟩), .slice (some ⟨w.heap.size, 0, none⟩) 1 1] (w.alloc (.cells #[.string t] 9)) (TeW g v w (l ++ catN [t]) sp) :=
  (put_any (h.later (bal (Below.refl _ w) _)) (n := 1) (c := 1) rfl (Nat.le_refl _) (by omega) (WPs.one w t) (by simp) (by have := h.lt; omega) (fun e => by have := (h.blk _ e.symm).2; omega) hz).mono fun _ _ h => h.box
theorem put2 {g : Nat} {v : Sl} {l : List Int} {sp : Bool} {w : World} (h : Wt w g v l sp) (t u : ByteArray) (hz : l.length + (catN [t, u]).length ≤ 1000000) :
    Calls Tryz.prog 78 #[.pointer (some ⟨g, 0, none⟩), .slice (some ⟨w.heap.size, 0, none⟩) 2 2] (w.alloc (.cells #[.string t, .string u] 9)) (TeW g v w (l ++ catN [t, u]) sp) :=
  (put_any (h.later (bal (Below.refl _ w) _)) (n := 2) (c := 2) rfl (Nat.le_refl _) (by omega) (WPs.two w t u) (by simp) (by have := h.lt; omega) (fun e => by have := (h.blk _ e.symm).2; omega) hz).mono fun _ _ h => h.box
theorem put3 {g : Nat} {v : Sl} {l : List Int} {sp : Bool} {w : World} (h : Wt w g v l sp) (t u x : ByteArray) (hz : l.length + (catN [t, u, x]).length ≤ 1000000) :
    Calls Tryz.prog 78 #[.pointer (some ⟨g, 0, none⟩), .slice (some ⟨w.heap.size, 0, none⟩) 3 3] (w.alloc (.cells #[.string t, .string u, .string x] 9)) (TeW g v w (l ++ catN [t, u, x]) sp) :=
  (put_any (h.later (bal (Below.refl _ w) _)) (n := 3) (c := 3) rfl (Nat.le_refl _) (by omega) (WPs.three w t u x) (by simp) (by have := h.lt; omega) (fun e => by have := (h.blk _ e.symm).2; omega) hz).mono fun _ _ h => h.box
theorem Wt.sp {w : World} {g : Nat} {v : Sl} {l : List Int} {sp : Bool} (h : Wt w g v l sp) (b : Bool) : Wt (w.setCell ⟨g, 1, none⟩ (.bool b)) g v l b := ⟨by simp [World.setCell, Array.getElem?_modify, h.row], h.own.sto (q := g) (Nat.lt_succ_self g) _ _⟩
theorem WUp.sp (g : Nat) (v : Sl) (w : World) (o : Nat) (u : Value) : WUp g v w (w.setCell ⟨g, o, none⟩ u) := ⟨rfl, rfl, rfl, by simp [World.setCell], fun k _ hg _ => Below.heap_setCell _ _ _ _ hg⟩

set_option maxRecDepth 100000 in
theorem wSpace_any {g : Nat} {v : Sl} {s : Ws} {w : World} (h : Wt w g v s.1 s.2) (hz : s.1.length ≤ 900000) : Calls Tryz.prog 44 #[.pointer (some ⟨g, 0, none⟩)] w (TeS2 g v w (spS s)) := by
  obtain ⟨l, sp⟩ := s
  have c1 := h.c1
  simp only at c1 h hz
  cases sp with
  | false =>
    have f1 := h.f1
    have hW := h.sp true
    go_enter Tryz.func44, Tryz.ntmps44
    go_wp2
    exact bodyPost_end (results_none rfl _ _ _) rfl ⟨v, rfl, hW, WUp.sp _ _ _ _ _, WKp.refl _ _⟩
  | true =>
    have H : Hid _ := hid (put1 h ⟨#[32]⟩ (by have : (catN [⟨#[32]⟩]).length = 1 := rfl; omega))
    go_enter Tryz.func44, Tryz.ntmps44
    go_wp2_with fail
    refine Calls.mono H.out ?_
    rintro e w1 ⟨v1, rfl, hW, hU, hK⟩
    have f1 := hW.f1
    have d1 := hW.c1
    have hW2 := hW.sp true
    have hU2 := hU.trans (WUp.sp g v1 w1 1 (.bool true)) hK
    clear H h c1
    go_wp2
    exact bodyPost_end (results_none rfl _ _ _) rfl ⟨v1, rfl, hW2, hU2, hK⟩
set_option maxRecDepth 100000 in
theorem wWord_any {g : Nat} {v : Sl} {s : Ws} {w : World} (h : Wt w g v s.1 s.2) (t : ByteArray) (hz : s.1.length + t.size ≤ 900000) : Calls Tryz.prog 61 #[.pointer (some ⟨g, 0, none⟩), .string t] w (TeS2 g v w (woS t s)) := by
  have H : Hid _ := hid (wSpace_any h (by omega))
  have hl : (spS s).1.length ≤ s.1.length + 1 := by unfold spS; split <;> simp
  have hc : (catN [t]).length = t.size := by simp [catN, nums_len]
  go_enter Tryz.func61, Tryz.ntmps61
  go_wp2_with fail
  refine Calls.mono H.out ?_
  rintro e w1 ⟨v1, rfl, hW, hU, hK⟩
  have H2 : Hid _ := hid (put1 hW t (by omega))
  clear H h
  go_wp2_with fail
  refine Calls.mono H2.out ?_
  rintro e w2 ⟨v2, rfl, hW2, hU2, hK2⟩
  have hU3 := hU.trans hU2 hK
  have hK3 := hK.trans hK2 hU.size
  clear H2 hU2 hK2 hW
  go_wp2
  exact bodyPost_end (results_none rfl _ _ _) rfl ⟨v2, rfl, hW2, hU3, hK3⟩

set_option maxRecDepth 100000 in
theorem wOpen_any {g : Nat} {v : Sl} {s : Ws} {w : World} (h : Wt w g v s.1 s.2) (hz : s.1.length ≤ 900000) : Calls Tryz.prog 89 #[.pointer (some ⟨g, 0, none⟩)] w (TeS2 g v w (opS s)) := by
  have H : Hid _ := hid (put1 h ⟨#[40]⟩ (by have : (catN [⟨#[40]⟩]).length = 1 := rfl; omega))
  go_enter Tryz.func89, Tryz.ntmps89
  go_wp2_with fail
  refine Calls.mono H.out ?_
  rintro e w1 ⟨v1, rfl, hW, hU, hK⟩
  have f1 := hW.f1
  have d1 := hW.c1
  have hW2 := hW.sp false
  have hU2 := hU.trans (WUp.sp g v1 w1 1 (.bool false)) hK
  clear H h
  go_wp2
  exact bodyPost_end (results_none rfl _ _ _) rfl ⟨v1, rfl, hW2, hU2, hK⟩
set_option maxRecDepth 100000 in
theorem wClose_any {g : Nat} {v : Sl} {s : Ws} {w : World} (h : Wt w g v s.1 s.2) (hz : s.1.length ≤ 900000) : Calls Tryz.prog 91 #[.pointer (some ⟨g, 0, none⟩)] w (TeS2 g v w (clS s)) := by
  have H : Hid _ := hid (put1 h ⟨#[41]⟩ (by have : (catN [⟨#[41]⟩]).length = 1 := rfl; omega))
  go_enter Tryz.func91, Tryz.ntmps91
  go_wp2_with fail
  refine Calls.mono H.out ?_
  rintro e w1 ⟨v1, rfl, hW, hU, hK⟩
  have f1 := hW.f1
  have d1 := hW.c1
  have hW2 := hW.sp true
  have hU2 := hU.trans (WUp.sp g v1 w1 1 (.bool true)) hK
  clear H h
  go_wp2
  exact bodyPost_end (results_none rfl _ _ _) rfl ⟨v1, rfl, hW2, hU2, hK⟩
/-- How many bytes words may come to. -/
def szL (L : List ByteArray) : Nat := (L.map fun t => t.size + 1).sum
theorem woS_len (t : ByteArray) (s : Ws) : (woS t s).1.length ≤ s.1.length + t.size + 1 := by
  have hl : (spS s).1.length ≤ s.1.length + 1 := by unfold spS; split <;> simp
  have hc : (catN [t]).length = t.size := by simp [catN, nums_len]
  show ((spS s).1 ++ catN [t]).length ≤ _
  rw [List.length_append]
  omega
theorem wosS_take {L : List ByteArray} {k : Nat} (h : k < L.length) (s : Ws) : wosS (L.take (k + 1)) s = woS L[k] (wosS (L.take k) s) := by
  rw [wosS, wosS, List.take_succ_eq_append_getElem h, List.foldl_append]
  rfl
theorem wosS_len (L : List ByteArray) : ∀ s : Ws, (wosS L s).1.length ≤ s.1.length + szL L := by
  induction L with
  | nil => intro s; exact Nat.le_add_right _ _
  | cons t L ih =>
    intro s
    have := ih (woS t s)
    have h2 := woS_len t s
    show (wosS L (woS t s)).1.length ≤ s.1.length + ((t.size + 1) + szL L)
    omega
theorem szL_take {L : List ByteArray} {k : Nat} (h : k < L.length) : szL (L.take k) + (L[k].size + 1) ≤ szL L := by
  have e : szL L = szL (L.take k) + szL (L.drop k) := by
    rw [szL, szL, szL, ← List.sum_append, ← List.map_append, List.take_append_drop]
  rw [e, List.drop_eq_getElem_cons h]
  show _ ≤ _ + ((L[k].size + 1) + szL (L.drop (k + 1)))
  omega
set_option maxRecDepth 100000 in
set_option maxHeartbeats 2000000 in
theorem wWords_any {g : Nat} {v : Sl} {s : Ws} {w : World} (h : Wt w g v s.1 s.2) {L : List ByteArray} {b : Nat} {n c : Nat} (hn : L.length = n) (hnc : n ≤ c) (hc : c ≤ 9223372036854775807) (hL : WPs w b 0 L) (hb : b < w.heap.size) (hbg : b ≠ g) (hbv : some b ≠ (slV v).ownBlock) (hz : s.1.length + szL L ≤ 800000) :
    Calls Tryz.prog 57 #[.pointer (some ⟨g, 0, none⟩), .slice (some ⟨b, 0, none⟩) n c] w (TeS2 g v w (wosS L s)) := by
  subst hn
  have HL : Hid (∀ w', WUp g v w w' → WPs w' b 0 L) := hid fun w' hu => ⟨fun i hi => (World.cell?_of_block (a := ⟨b, _, none⟩) (hu.block b hb hbg hbv)).trans (hL.cell i hi)⟩
  clear hL
  go_enter Tryz.func57, Tryz.ntmps57
  go_wp2
  go_loopw [8] (fun v8 wr => ∃ (k : Nat) (v2 : Sl), k ≤ L.length ∧ v8 = .int .i64 k ∧ Wt wr g v2 (wosS (L.take k) s).1 (wosS (L.take k) s).2 ∧ WUp g v w wr ∧ WKp v v2 w.heap.size) (fun i _ => L.length - (intOf i).toNat)
  case atStart => exact ⟨0, v, Nat.zero_le _, rfl, h, WUp.refl _ _ _, WKp.refl _ _⟩
  case round =>
    obtain ⟨k, v2, hk, rfl, hW, hU, hK⟩ := hrel
    by_cases hlt : k < L.length
    · have x0 := (HL.out wr hU).cell k hlt
      rw [Nat.zero_add] at x0
      have hkI : (k : Int) < (L.length : Int) := by omega
      have h1 := wosS_len (L.take k) s
      have h2 := szL_take hlt
      have H := wWord_any hW L[k] (by omega)
      rw [← wosS_take hlt s] at H
      generalize L[k] = t at *
      replace H : Hid _ := hid H
      clear hW h1 h2
      go_wp2_with fail
      refine Calls.mono H.out ?_
      rintro e w1 ⟨v1, rfl, hW1, hU1, hK1⟩
      have hU2 := hU.trans hU1 hK
      have hK2 := hK.trans hK1 hU.size
      clear H hU1 hK1
      replace hW1 : Hid _ := hid hW1
      go_wp2
      go_roundw
      case rel => exact ⟨k + 1, v1, hlt, by go_num, hW1.out, hU2, hK2⟩
      case measure => simp only [intOf]; omega
    · obtain rfl : k = L.length := by omega
      rw [List.take_length] at hW
      go_wp2
      exact bodyPost_end (results_none rfl _ _ _) rfl ⟨_, rfl, hW, hU, hK⟩

end Go.Proofs.YtnboooaockgoiaaGreatDoor
namespace Go.Proofs.YtnboooaockgoiaaGreatDoor
open Go.RowKit
set_option linter.unusedVariables false
set_option linter.unusedSimpArgs false

/-- What the library's functions read of the world: the powers of ten, and a number. -/
def Env1 (w : World) : Prop := Lib.TabIs Tryz.prog w "internal/strconv.uint64pow10" .u64 Lib.pow10Tab ∧ ∃ m, w.cell? ⟨1, 0, none⟩ = some (.int .i64 m)
/-- It stays so as long as what lies below block g does. -/
def Ev (g : Nat) (w : World) : Prop := ∀ w', Below g w w' → Env1 w'
theorem Ev.on {g : Nat} {w w' : World} (h : Ev g w) (hb : Below g w w') : Ev g w' := fun w2 h2 => h w2 (hb.trans h2)
theorem fmt_any {g : Nat} {v : Sl} {l : List Int} {sp : Bool} {w : World} (hW : Wt w g v l sp) (he : Ev g w) {n : Int} (hn : Fits n) : Calls Tryz.prog 109 #[.int .i64 n, .int .i64 10] w fun e w' => e = .returned (.string ⟨(Lib.itoa n).toArray⟩) ∧ Below w.heap.size w w' :=
  (Tryz.strconv_FormatInt_10 n hn.1 hn.2 w (he w (Below.refl _ _)).1).mono fun e w' ⟨h1, k, os, h2⟩ => ⟨h1, h2 ▸ Lib.below_grow w.heap.size w (Nat.le_refl _) k os⟩
theorem itoa_any {g : Nat} {v : Sl} {l : List Int} {sp : Bool} {w : World} (hW : Wt w g v l sp) (he : Ev g w) {n : Int} (hn : Fits n) : Calls Tryz.prog 96 #[.int .i64 n] w fun e w' => e = .returned (.string ⟨(Lib.itoa n).toArray⟩) ∧ Below w.heap.size w w' :=
  (Tryz.strconv_Itoa n hn.1 hn.2 w (he w (Below.refl _ _)).1).mono fun e w' ⟨h1, k, os, h2⟩ => ⟨h1, h2 ▸ Lib.below_grow w.heap.size w (Nat.le_refl _) k os⟩
theorem repl_dbl : ∀ l : List UInt8, Lib.replaceK [39] [39, 39] (Lib.count l [39]) l = dblQ l
  | [] => by rw [Lib.count_miss (by simp [Lib.index])]; rfl
  | b :: l => by
    have ih := repl_dbl l
    by_cases h : b = 39
    · subst h
      have hix : Lib.index (39 :: l) [39] = ((0 : Nat) : Int) := by rw [Lib.index]; simp [List.isPrefixOf]
      rw [Lib.count_cons_eq, Nat.add_comm, Lib.replaceK_hit [39] [39, 39] _ _ 0 hix]
      show [39, 39] ++ Lib.replaceK [39] [39, 39] (Lib.count l [39]) l = _
      rw [ih]
      rfl
    · have hb : ¬ b.toNat = 39 := fun e => h (UInt8.toNat_inj.1 e)
      rw [Lib.count_cons_ne b 39 l h, dblQ, if_neg hb, ← ih]
      cases hn : Lib.count l [39] with
      | zero => rfl
      | succ m =>
        obtain ⟨j, hj⟩ := Lib.index_of_count (s := l) (old := [39]) (by omega)
        have hp : ([39] : List UInt8).isPrefixOf (b :: l) = false := by simp [List.isPrefixOf, Ne.symm h]
        have hix : Lib.index (b :: l) [39] = ((j + 1 : Nat) : Int) := by
          rw [Lib.index, hp]
          have : ¬ (Lib.index l [39] == -1) = true := fun e => by have := beq_iff_eq.1 e; omega
          simp only [Bool.false_eq_true, if_false]
          rw [if_neg this, hj]
          omega
        rw [Lib.replaceK_hit [39] [39, 39] m _ _ hix, Lib.replaceK_hit [39] [39, 39] m _ _ hj]
        simp
theorem replAll_dbl (l : List UInt8) : Lib.replaceAll l [39] [39, 39] = dblQ l := by
  have e : Lib.replaceNum l [39] (-1) = Lib.count l [39] := by unfold Lib.replaceNum; rw [if_pos (.inl (by decide))]
  rw [Lib.replaceAll, Lib.replace, if_neg (by decide), e, repl_dbl]
theorem repl_any {g : Nat} {v : Sl} {l : List Int} {sp : Bool} {w : World} (hW : Wt w g v l sp) (he : Ev g w) {s : ByteArray} (hs : s.size ≤ 1000) : Calls Tryz.prog 110 #[.string s, .string ⟨#[39]⟩, .string ⟨#[39, 39]⟩] w fun e w' => e = .returned (.string ⟨(dblQ (bs s)).toArray⟩) ∧ Below w.heap.size w w' := by
  obtain ⟨m, hm⟩ := (he w (Below.refl _ _)).2
  have hc : Lib.countB s ⟨#[39]⟩ ≤ s.size := Lib.countB_le ⟨#[39]⟩ (by decide) s.size s (Nat.le_refl _)
  have h2 : (⟨#[39, 39]⟩ : ByteArray).size = 2 := rfl
  have := Tryz.strings_ReplaceAll s ⟨#[39]⟩ ⟨#[39, 39]⟩ m w (by omega) hm (by decide) (by rw [h2]; omega)
  have e : Lib.replaceAll s.data.toList [39] [39, 39] = dblQ (bs s) := replAll_dbl _
  rw [← e]
  exact this

set_option maxRecDepth 100000 in
theorem wColumn_any {g : Nat} {v : Sl} {s : Ws} {w : World} (h : Wt w g v s.1 s.2) (t n : ByteArray) (hz : s.1.length + t.size + n.size ≤ 900000) : Calls Tryz.prog 80 #[.pointer (some ⟨g, 0, none⟩), .string t, .string n] w (TeS2 g v w (puS [coB t n] s)) := by
  have hs : (t.toList == (⟨#[]⟩ : ByteArray).toList) = eqS t ⟨#[]⟩ := same_str t ⟨#[]⟩
  by_cases ht : t = ⟨#[]⟩
  · subst ht
    have e : coB ⟨#[]⟩ n = n := if_pos rfl
    rw [e]
    have H : Hid _ := hid (put1 h n (by have : (catN [n]).length = n.size := by simp [catN, nums_len]
                                        omega))
    clear h hs e
    go_enter Tryz.func80, Tryz.ntmps80
    go_wp2_with fail
    refine Calls.mono H.out ?_
    rintro e w1 ⟨v1, rfl, hW, hU, hK⟩
    clear H
    go_wp2
    exact bodyPost_end (results_none rfl _ _ _) rfl ⟨v1, rfl, hW, hU, hK⟩
  · have e : coB t n = (t ++ ⟨#[46]⟩) ++ n := if_neg ht
    have he : eqS t ⟨#[]⟩ = false := by
      cases hc : eqS t ⟨#[]⟩ with
      | false => rfl
      | true => exact absurd (by simpa [eqS] using hc) ht
    rw [he] at hs
    have e0 : (⟨#[]⟩ : ByteArray).toList = [] := by rw [ByteArray.toList_eq]
    have hi : t.toList.isEmpty = false := by
      rw [e0] at hs
      cases hl : t.toList with
      | nil => rw [hl] at hs; cases hs
      | cons x l => rfl
    have hc2 : (catN [t, ⟨#[46]⟩]).length = t.size + 1 := by simp [catN, nums_len]; rfl
    have hc1 : (catN [n]).length = n.size := by simp [catN, nums_len]
    have hcat : s.1 ++ catN [t, ⟨#[46]⟩] ++ catN [n] = s.1 ++ catN [coB t n] := by
      rw [e, List.append_assoc]
      congr 1
      simp [catN, nums]
    have H : Hid _ := hid (put2 h t ⟨#[46]⟩ (by omega))
    clear h e0 hs he ht e
    go_enter Tryz.func80, Tryz.ntmps80
    go_wp2_with fail
    refine Calls.mono H.out ?_
    rintro e w1 ⟨v1, rfl, hW, hU, hK⟩
    have H2 : Hid _ := hid (put1 hW n (by rw [List.length_append]; omega))
    clear H hW
    go_wp2_with fail
    refine Calls.mono H2.out ?_
    rintro e w2 ⟨v2, rfl, hW2, hU2, hK2⟩
    have hU3 := hU.trans hU2 hK
    have hK3 := hK.trans hK2 hU.size
    rw [hcat] at hW2
    clear H2 hU2 hK2
    go_wp2
    exact bodyPost_end (results_none rfl _ _ _) rfl ⟨v2, rfl, hW2, hU3, hK3⟩

set_option maxRecDepth 100000 in
set_option maxHeartbeats 1000000 in
theorem wValue_any {g : Nat} {v : Sl} {s : Ws} {w : World} (h : Wt w g v s.1 s.2) (he : Ev g w) {k i : Int} {t : ByteArray} (hk : (k = 1 ∧ 0 ≤ i ∧ Fits i) ∨ k = 2) (ht : t.size ≤ 1000) (a b : ByteArray) (hz : s.1.length ≤ 800000) :
    Calls Tryz.prog 79 #[.pointer (some ⟨g, 0, none⟩), .agg #[.int .i64 k, .int .i64 i, .string t]] w (TeS2 g v w (puS [vaB (k, i, t, a, b)] s)) := by
  have hbx := bal (Below.refl _ w) (.cells #[.int .i64 k, .int .i64 i, .string t] 40)
  rcases hk with ⟨rfl, hi, hf⟩ | rfl
  · have e : vaB (1, i, t, a, b) = ⟨(Lib.itoa i).toArray⟩ := if_pos rfl
    have hl : (⟨(Lib.itoa i).toArray⟩ : ByteArray).size ≤ 30 := by
      have := Lib.itoa_length_le i hf.1 hf.2
      rw [sz_mk]
      simp
      omega
    rw [e]
    have H : Hid _ := hid (fmt_any (h.later hbx) (he.on (hbx.mono (Nat.le_of_lt h.lt))) hf)
    have hW0 := h.later hbx
    generalize (⟨(Lib.itoa i).toArray⟩ : ByteArray) = D at *
    clear h e
    go_enter Tryz.func79, Tryz.ntmps79
    go_wp2_with fail
    refine Calls.mono H.out ?_
    rintro e w1 ⟨rfl, hb1⟩
    have hW1 := hW0.later hb1
    have hbw := Below.on hbx hb1
    have H2 : Hid _ := hid (put1 hW1 D (by have : (catN [D]).length = D.size := by simp [catN, nums_len]
                                           omega))
    clear H hW0 hW1
    go_wp2_with fail
    refine Calls.mono H2.out ?_
    rintro e w2 ⟨v2, rfl, hW2, hU2, hK2⟩
    have hU3 : WUp g v w w2 := (WUp.of hbw).trans hU2 (WKp.refl _ _)
    have hK3 : WKp v v2 w.heap.size := (WKp.refl v w.heap.size).trans hK2 hbw.size
    clear H2 hU2 hK2
    go_wp2
    exact bodyPost_end (results_none rfl _ _ _) rfl ⟨v2, rfl, hW2, hU3, hK3⟩
  · have e : vaB (2, i, t, a, b) = quB t := if_neg (show ¬ (2 : Int) = 1 by decide)
    rw [e]
    have hq := dblQ_len (bs t)
    rw [bs_length] at hq
    have hcat : catN [⟨#[39]⟩, ⟨(dblQ (bs t)).toArray⟩, ⟨#[39]⟩] = catN [quB t] := by simp [catN, nums, quB]
    have hql : (catN [quB t]).length ≤ 2002 := by
      have := quB_size t
      have h2 : (catN [quB t]).length = (quB t).size := by simp [catN, nums_len]
      omega
    have H : Hid _ := hid (repl_any (h.later hbx) (he.on (hbx.mono (Nat.le_of_lt h.lt))) ht)
    have hW0 := h.later hbx
    have Hc : Hid _ := hid hcat
    generalize (⟨(dblQ (bs t)).toArray⟩ : ByteArray) = D at *
    clear h e hcat hq
    go_enter Tryz.func79, Tryz.ntmps79
    go_wp2_with fail
    refine Calls.mono H.out ?_
    rintro e w1 ⟨rfl, hb1⟩
    have hW1 := hW0.later hb1
    have hbw := Below.on hbx hb1
    have H2 := put3 hW1 ⟨#[39]⟩ D ⟨#[39]⟩ (by rw [Hc.out]; omega)
    rw [Hc.out] at H2
    replace H2 : Hid _ := hid H2
    clear H hW0 hW1 Hc
    go_wp2_with fail
    refine Calls.mono H2.out ?_
    rintro e w2 ⟨v2, rfl, hW2, hU2, hK2⟩
    have hU3 : WUp g v w w2 := (WUp.of hbw).trans hU2 (WKp.refl _ _)
    have hK3 : WKp v v2 w.heap.size := (WKp.refl v w.heap.size).trans hK2 hbw.size
    clear H2 hU2 hK2
    go_wp2
    exact bodyPost_end (results_none rfl _ _ _) rfl ⟨v2, rfl, hW2, hU3, hK3⟩

end Go.Proofs.YtnboooaockgoiaaGreatDoor
namespace Go.Proofs.YtnboooaockgoiaaGreatDoor
open Go.RowKit
set_option linter.unusedVariables false
set_option linter.unusedSimpArgs false

/-- An expression that the writer shows as the document does. -/
def WfS : Tr → Prop
  | .nil => False
  | .node _ op p l r => (Fits p.2.1 ∧ p.2.2.1.size ≤ 1000 ∧ p.2.2.2.1.size ≤ 1000 ∧ p.2.2.2.2.size ≤ 1000) ∧ ((op = 1 ∧ ((p.1 = 1 ∧ 0 ≤ p.2.1) ∨ p.1 = 2)) ∨ op = 2 ∨ ((op = 3 ∨ op = 4) ∧ WfS l ∧ noT r = true) ∨ (5 ≤ op ∧ op ≤ 15 ∧ WfS l ∧ WfS r))
theorem WfS.no {t : Tr} (h : WfS t) : noT t = false := by
  cases t with
  | nil => exact h.elim
  | node => rfl
/-- The writer's part at t. -/
def PartOK (t : Tr) : Prop := WfS t → ∀ {g : Nat} {v : Sl} {s : Ws} {w : World}, Wt w g v s.1 s.2 → Ev g w → s.1.length + (shE t).size ≤ 800000 → ∀ (y : Value), Ex (fun k => k < g) w t y → Calls Tryz.prog 45 #[.pointer (some ⟨g, 0, none⟩), y] w (TeS2 g v w (puS [shE t] s))
theorem Ex.row_first {Q : Nat → Prop} {w : World} {x op : Nat} {p : Pay} {l r : Tr} {v : Value} (h : Ex Q w (.node x op p l r) v) (hl : noT l = false) (hr : noT r = true) : ∃ b o c op1 p1 a1 n1 c1, v = exV op p (.slice (some ⟨b, o, none⟩) 1 c) ∧ 1 ≤ c ∧ c ≤ 9223372036854775807 ∧ Q b ∧ Ce w b o op1 p1 (.slice a1 n1 c1) ∧ Ex Q w l (exV op1 p1 (.slice a1 n1 c1)) := by
  obtain ⟨ao, n, c, hv, hn, hc, h⟩ := h
  rcases h with ⟨h1, _⟩ | ⟨h1, h2, rfl, b, o, op1, p1, a1, n1, c1, rfl, hq, hx, hl'⟩ | ⟨h1, h2, _⟩
  · rw [hl] at h1; cases h1
  · exact ⟨b, o, c, op1, p1, a1, n1, c1, hv, hn, hc, hq, hx, hl'⟩
  · rw [hr] at h2; cases h2
theorem Ex.row_both {Q : Nat → Prop} {w : World} {x op : Nat} {p : Pay} {l r : Tr} {v : Value} (h : Ex Q w (.node x op p l r) v) (hl : noT l = false) (hr : noT r = false) : ∃ b o c op1 p1 a1 n1 c1 op2 p2 a2 n2 c2, v = exV op p (.slice (some ⟨b, o, none⟩) 2 c) ∧ 2 ≤ c ∧ c ≤ 9223372036854775807 ∧ Q b ∧ Ce w b o op1 p1 (.slice a1 n1 c1) ∧ Ce w b (o + 7) op2 p2 (.slice a2 n2 c2) ∧ Ex Q w l (exV op1 p1 (.slice a1 n1 c1)) ∧ Ex Q w r (exV op2 p2 (.slice a2 n2 c2)) := by
  obtain ⟨ao, n, c, hv, hn, hc, h⟩ := h
  rcases h with ⟨h1, _⟩ | ⟨h1, h2, _⟩ | ⟨h1, h2, rfl, b, o, op1, p1, a1, n1, c1, op2, p2, a2, n2, c2, rfl, hq, hx, hy, hl', hr'⟩
  · rw [hl] at h1; cases h1
  · rw [hr] at h2; cases h2
  · exact ⟨b, o, c, op1, p1, a1, n1, c1, op2, p2, a2, n2, c2, hv, hn, hc, hq, hx, hy, hl', hr'⟩

set_option maxRecDepth 100000 in
set_option maxHeartbeats 2000000 in
theorem between_any (w : World) : ∀ j : Nat, j < 11 → Calls Tryz.prog 83 #[.int .i64 ((j : Int) + 5)] w fun e w' => e = .returned (.string (opT j)) ∧ Below w.heap.size w w' := by
  intro j hj
  match j, hj with
  | 0, _ | 1, _ | 2, _ | 3, _ | 4, _ | 5, _ | 6, _ | 7, _ | 8, _ | 9, _ | 10, _ =>
    go_enter Tryz.func83, Tryz.ntmps83
    go_wp2
    go_ret
    exact ⟨rfl, Below.refl _ _⟩

theorem catN_len1 (t : ByteArray) : (catN [t]).length = t.size := by simp [catN, nums_len]
theorem catN_app (K L : List ByteArray) : catN K ++ catN L = catN (K ++ L) := by simp [catN]
theorem catN_len (K : List ByteArray) : (catN K).length = (K.map ByteArray.size).sum := by
  induction K with
  | nil => rfl
  | cons t K ih =>
    have e : catN (t :: K) = nums t ++ catN K := rfl
    rw [e, List.length_append, ih, nums_len]
    rfl
set_option maxRecDepth 100000 in
set_option maxHeartbeats 2000000 in
theorem wOfOne_any {g : Nat} {v : Sl} {s : Ws} {w : World} (h : Wt w g v s.1 s.2) (he : Ev g w) {l : Tr} (hl : PartOK l) (hw : WfS l) {b o c : Nat} {op1 : Int} {p1 : Pay} {a1 : Option Addr} {n1 c1 : Nat} (hb : b < g) (hc1 : 1 ≤ c) (hc : c ≤ 9223372036854775807) (hx : Ce w b o op1 p1 (.slice a1 n1 c1)) (hex : Ex (fun k => k < g) w l (exV op1 p1 (.slice a1 n1 c1))) (t : ByteArray) (hz : s.1.length + t.size + (shE l).size + 2 ≤ 800000) :
    Calls Tryz.prog 81 #[.pointer (some ⟨g, 0, none⟩), .string t, .slice (some ⟨b, o, none⟩) 1 c] w (TeS2 g v w (puS [⟨#[40]⟩, t, shE l, ⟨#[41]⟩] s)) := by
  have z1 : (catN [⟨#[40]⟩, t]).length = t.size + 1 := by rw [catN_len]; simp; exact Nat.add_comm 1 _
  have H : Hid _ := hid (put2 h ⟨#[40]⟩ t (by omega))
  have HB : Hid (∀ w', WUp g v w w' → Below g w w') := hid fun w' hu => hu.below (Nat.le_of_lt h.lt) fun b e => (h.blk b e).1
  clear h
  replace hx : Hid _ := hid hx
  go_enter Tryz.func81, Tryz.ntmps81
  go_wp2_with fail
  refine Calls.mono H.out ?_
  rintro e w1 ⟨v1, rfl, hW, hU, hK⟩
  have hbl := HB.out w1 hU
  obtain ⟨k0, k1, k2, k3, k4, k5, k6⟩ := hx.out.keep (hbl.block b hb)
  have H2 : Hid _ := hid (hl hw (s := puS [⟨#[40]⟩, t] s) hW (he.on hbl) (by show (s.1 ++ catN _).length + _ ≤ _; rw [List.length_append]; omega) _ (hex.keep fun k hk _ => hbl.block k hk))
  unfold exV at H2
  clear H hW hbl HB hx he hex
  go_wp2_with fail
  refine Calls.mono H2.out ?_
  rintro e w2 ⟨v2, rfl, hW2, hU2, hK2⟩
  have hU3 := hU.trans hU2 hK
  have hK3 := hK.trans hK2 hU.size
  clear H2 hU2 hK2 k0 k1 k2 k3 k4 k5 k6
  have H3 : Hid _ := hid (put1 hW2 ⟨#[41]⟩ (by
    show ((s.1 ++ catN _) ++ catN _).length + _ ≤ _
    rw [List.length_append, List.length_append, catN_len1, catN_len1, z1]
    have : (⟨#[41]⟩ : ByteArray).size = 1 := rfl
    omega))
  clear hW2
  go_wp2_with fail
  refine Calls.mono H3.out ?_
  rintro e w3 ⟨v3, rfl, hW3, hU4, hK4⟩
  have hU5 := hU3.trans hU4 hK3
  have hK5 := hK3.trans hK4 hU3.size
  have e1 : (puS [shE l] (puS [⟨#[40]⟩, t] s)).1 ++ catN [⟨#[41]⟩] = (puS [⟨#[40]⟩, t, shE l, ⟨#[41]⟩] s).1 := by
    show ((s.1 ++ catN _) ++ catN _) ++ catN _ = s.1 ++ catN _
    rw [List.append_assoc, List.append_assoc, catN_app, catN_app]
    rfl
  rw [e1] at hW3
  clear H3 hU4 hK4 hU3 hK3
  replace hW3 : Hid _ := hid hW3
  go_wp2
  exact bodyPost_end (results_none rfl _ _ _) rfl ⟨v3, rfl, hW3.out, hU5, hK5⟩

set_option maxRecDepth 100000 in
set_option maxHeartbeats 2000000 in
theorem wOfTwo_any {g : Nat} {v : Sl} {s : Ws} {w : World} (h : Wt w g v s.1 s.2) (he : Ev g w) {l r : Tr} (hl : PartOK l) (hr : PartOK r) (hwl : WfS l) (hwr : WfS r) {b o c : Nat} {op1 : Int} {p1 : Pay} {a1 : Option Addr} {n1 c1 : Nat} {op2 : Int} {p2 : Pay} {a2 : Option Addr} {n2 c2 : Nat} (hb : b < g) (hc1 : 2 ≤ c) (hc : c ≤ 9223372036854775807) (hx : Ce w b o op1 p1 (.slice a1 n1 c1)) (hy : Ce w b (o + 7) op2 p2 (.slice a2 n2 c2)) (hex : Ex (fun k => k < g) w l (exV op1 p1 (.slice a1 n1 c1))) (hey : Ex (fun k => k < g) w r (exV op2 p2 (.slice a2 n2 c2))) {t : ByteArray} (ht : 0 < t.size) (hz : s.1.length + t.size + (shE l).size + (shE r).size + 4 ≤ 800000) :
    Calls Tryz.prog 82 #[.pointer (some ⟨g, 0, none⟩), .string t, .slice (some ⟨b, o, none⟩) 2 c] w (TeS2 g v w (puS [⟨#[40]⟩, shE l, ⟨#[32]⟩, t, ⟨#[32]⟩, shE r, ⟨#[41]⟩] s)) := by
  have z1 : (catN [⟨#[40]⟩]).length = 1 := rfl
  have z2 : (catN [⟨#[32]⟩, t, ⟨#[32]⟩]).length = t.size + 2 := by rw [catN_len]; simp; show 1 + (t.size + 1) = _; omega
  have z3 : (catN [⟨#[41]⟩]).length = 1 := rfl
  have hi : t.toList.isEmpty = false := by
    cases hl : t.toList with
    | nil =>
      rw [ByteArray.toList_eq] at hl
      have : t.data.toList.length = 0 := by rw [hl]; rfl
      have e : t.size = t.data.toList.length := rfl
      omega
    | cons x l => rfl
  have H : Hid _ := hid (put1 h ⟨#[40]⟩ (by omega))
  have HB : Hid (∀ w', WUp g v w w' → Below g w w') := hid fun w' hu => hu.below (Nat.le_of_lt h.lt) fun b e => (h.blk b e).1
  clear h
  replace hx : Hid _ := hid hx
  replace hy : Hid _ := hid hy
  go_enter Tryz.func82, Tryz.ntmps82
  go_wp2_with fail
  refine Calls.mono H.out ?_
  rintro e w1 ⟨v1, rfl, hW, hU, hK⟩
  have hbl := HB.out w1 hU
  obtain ⟨k0, k1, k2, k3, k4, k5, k6⟩ := hx.out.keep (hbl.block b hb)
  have H2 : Hid _ := hid (hl hwl (s := puS [⟨#[40]⟩] s) hW (he.on hbl) (by show (s.1 ++ catN _).length + _ ≤ _; rw [List.length_append]; omega) _ (hex.keep fun k hk _ => hbl.block k hk))
  unfold exV at H2
  clear H hW hbl hx hex
  go_wp2_with fail
  refine Calls.mono H2.out ?_
  rintro e w2 ⟨v2, rfl, hW2, hU2, hK2⟩
  have hU3 := hU.trans hU2 hK
  have hK3 := hK.trans hK2 hU.size
  clear H2 hU2 hK2 k0 k1 k2 k3 k4 k5 k6 hU hK
  have H3 : Hid _ := hid (put3 hW2 ⟨#[32]⟩ t ⟨#[32]⟩ (by
    show ((s.1 ++ catN _) ++ catN _).length + _ ≤ _
    rw [List.length_append, List.length_append, catN_len1 (shE l), z1, z2]
    omega))
  clear hW2
  go_wp2_with fail
  refine Calls.mono H3.out ?_
  rintro e w3 ⟨v3, rfl, hW3, hU4, hK4⟩
  have hU5 := hU3.trans hU4 hK3
  have hK5 := hK3.trans hK4 hU3.size
  clear H3 hU3 hK3 hU4 hK4
  have hbl := HB.out w3 hU5
  obtain ⟨k0, k1, k2, k3, k4, k5, k6⟩ := hy.out.keep (hbl.block b hb)
  have H4 : Hid _ := hid (hr hwr (s := puS [⟨#[32]⟩, t, ⟨#[32]⟩] (puS [shE l] (puS [⟨#[40]⟩] s))) hW3 (he.on hbl) (by show (((s.1 ++ catN _) ++ catN _) ++ catN _).length + _ ≤ _; rw [List.length_append, List.length_append, List.length_append, catN_len1 (shE l), z1, z2]; omega) _ (hey.keep fun k hk _ => hbl.block k hk))
  unfold exV at H4
  clear hW3 hbl hy hey
  go_wp2_with fail
  refine Calls.mono H4.out ?_
  rintro e w4 ⟨v4, rfl, hW4, hU6, hK6⟩
  have hU7 := hU5.trans hU6 hK5
  have hK7 := hK5.trans hK6 hU5.size
  clear H4 hU6 hK6 k0 k1 k2 k3 k4 k5 k6 hU5 hK5
  have H5 : Hid _ := hid (put1 hW4 ⟨#[41]⟩ (by
    show ((((s.1 ++ catN _) ++ catN _) ++ catN _) ++ catN _).length + _ ≤ _
    rw [List.length_append, List.length_append, List.length_append, List.length_append, catN_len1 (shE l), catN_len1 (shE r), z1, z2, z3]
    omega))
  clear hW4
  go_wp2_with fail
  refine Calls.mono H5.out ?_
  rintro e w5 ⟨v5, rfl, hW5, hU8, hK8⟩
  have hU9 := hU7.trans hU8 hK7
  have hK9 := hK7.trans hK8 hU7.size
  have e1 : (puS [shE r] (puS [⟨#[32]⟩, t, ⟨#[32]⟩] (puS [shE l] (puS [⟨#[40]⟩] s)))).1 ++ catN [⟨#[41]⟩] = (puS [⟨#[40]⟩, shE l, ⟨#[32]⟩, t, ⟨#[32]⟩, shE r, ⟨#[41]⟩] s).1 := by
    show ((((s.1 ++ catN _) ++ catN _) ++ catN _) ++ catN _) ++ catN _ = s.1 ++ catN _
    rw [List.append_assoc, List.append_assoc, List.append_assoc, List.append_assoc, catN_app, catN_app, catN_app, catN_app]
    rfl
  rw [e1] at hW5
  clear H5 hU8 hK8 hU7 hK7
  replace hW5 : Hid _ := hid hW5
  go_wp2
  exact bodyPost_end (results_none rfl _ _ _) rfl ⟨v5, rfl, hW5.out, hU9, hK9⟩

end Go.Proofs.YtnboooaockgoiaaGreatDoor
namespace Go.Proofs.YtnboooaockgoiaaGreatDoor
open Go.RowKit
set_option linter.unusedVariables false
set_option linter.unusedSimpArgs false

theorem puS_eq {K L : List ByteArray} (h : catN K = catN L) (s : Ws) : puS K s = puS L s := by unfold puS; rw [h]
theorem TeW.up {g : Nat} {v : Sl} {w : World} {s : Ws} {o : Obj} {e : Ending} {w' : World} (h : TeS2 g v (w.alloc o) s e w') : TeS2 g v w s e w' := TeW.box h
set_option maxRecDepth 100000 in
set_option maxHeartbeats 2000000 in
theorem part_leaf {x op : Nat} {p : Pay} {l r : Tr} (ho : op = 1 ∨ op = 2) : PartOK (.node x op p l r) := by
  intro hw g v s w h he hz y hex
  obtain ⟨⟨hf, s1, s2, s3⟩, hw⟩ := hw
  obtain ⟨ao, n, c, rfl, hn, hc, _⟩ := hex
  obtain ⟨pk, pi, pt, pb, pn⟩ := p
  unfold exV
  simp only at hf s1 s2 s3 hw ⊢
  have hbx := bal (Below.refl _ w) (.cells #[.int .i64 (op : Int), .int .i64 pk, .int .i64 pi, .string pt, .string pb, .string pn, .slice ao n c] 43)
  have hW := h.later hbx
  rcases ho with rfl | rfl
  · have hk : (pk = 1 ∧ 0 ≤ pi) ∨ pk = 2 := by
      rcases hw with hw | hw | hw | hw
      · exact hw.2
      · omega
      · omega
      · omega
    have E : shE (.node x 1 (pk, pi, pt, pb, pn) l r) = vaB (pk, pi, pt, pb, pn) := by
      rw [shE, if_pos rfl]
      exact if_neg fun hh => by have h1 : pk = 1 := hh.1; have h2 : pi < 0 := hh.2; omega
    rw [E]
    have H : Hid _ := hid (wValue_any hW (he.on (hbx.mono (Nat.le_of_lt h.lt))) (k := pk) (i := pi) (t := pt) (hk.imp (fun hh => ⟨hh.1, hh.2, hf⟩) id) s1 pb pn (by omega))
    clear h hW he hk E hw hf s1 s2 s3 hbx
    go_enter Tryz.func45, Tryz.ntmps45
    go_wp2_with fail
    refine Calls.mono H.out ?_
    rintro e w1 ⟨v1, rfl, hW, hU, hK⟩
    clear H
    replace hW : Hid _ := hid hW
    go_wp2
    exact bodyPost_end (results_none rfl _ _ _) rfl (TeW.up ⟨v1, rfl, hW.out, hU, hK⟩)
  · have E : shE (.node x 2 (pk, pi, pt, pb, pn) l r) = coB pb pn := rfl
    rw [E]
    have hq : pb.size + pn.size ≤ 2000 := by omega
    have hs : s.1.length + (coB pb pn).size ≤ 800000 := by rw [← E]; exact hz
    have H : Hid _ := hid (wColumn_any hW pb pn (by omega))
    clear h hW he E hw hf s1 s2 s3 hbx
    go_enter Tryz.func45, Tryz.ntmps45
    go_wp2_with fail
    refine Calls.mono H.out ?_
    rintro e w1 ⟨v1, rfl, hW, hU, hK⟩
    clear H
    replace hW : Hid _ := hid hW
    go_wp2
    exact bodyPost_end (results_none rfl _ _ _) rfl (TeW.up ⟨v1, rfl, hW.out, hU, hK⟩)

set_option maxRecDepth 100000 in
set_option maxHeartbeats 2000000 in
theorem part_one {x op : Nat} {p : Pay} {l r : Tr} (ho : op = 3 ∨ op = 4) (hl : PartOK l) : PartOK (.node x op p l r) := by
  intro hw g v s w h he hz y hex
  have hww : WfS l ∧ noT r = true := by
    obtain ⟨_, h | h | h | h⟩ := hw
    · omega
    · omega
    · exact h.2
    · omega
  obtain ⟨b, o, c, op1, p1, a1, n1, c1, rfl, hc1, hc, hb, hx, hex⟩ := hex.row_first hww.1.no hww.2
  have hbx := bal (Below.refl _ w) (.cells #[.int .i64 (op : Int), .int .i64 p.1, .int .i64 p.2.1, .string p.2.2.1, .string p.2.2.2.1, .string p.2.2.2.2, .slice (some ⟨b, o, none⟩) 1 c] 43)
  have hW := h.later hbx
  have hlt := h.lt
  have he2 := he.on (hbx.mono (Nat.le_of_lt hlt))
  have hx2 := hx.keep (hbx.block b hx.lt)
  have hex2 := hex.keep fun k _ hk => hbx.block k hk
  unfold exV
  rcases ho with rfl | rfl
  · have E : shE (.node x 3 p l r) = (⟨#[40, 45]⟩ ++ shE l) ++ ⟨#[41]⟩ := rfl
    have hzl : s.1.length + (⟨#[45]⟩ : ByteArray).size + (shE l).size + 2 ≤ 800000 := by
      rw [E, ByteArray.size_append, ByteArray.size_append] at hz
      have e1 : (⟨#[40, 45]⟩ : ByteArray).size = 2 := rfl
      have e2 : (⟨#[41]⟩ : ByteArray).size = 1 := rfl
      have e3 : (⟨#[45]⟩ : ByteArray).size = 1 := rfl
      omega
    have hS : puS [shE (.node x 3 p l r)] s = puS [⟨#[40]⟩, ⟨#[45]⟩, shE l, ⟨#[41]⟩] s := puS_eq (by rw [E]; simp [catN, nums]) s
    rw [hS]
    have H : Hid _ := hid (wOfOne_any hW he2 hl hww.1 hb hc1 hc hx2 hex2 ⟨#[45]⟩ hzl)
    clear h hW he he2 hx hx2 hex hex2 E hS hbx hw hww hl
    go_enter Tryz.func45, Tryz.ntmps45
    go_wp2_with fail
    refine Calls.mono H.out ?_
    rintro e w1 ⟨v1, rfl, hW, hU, hK⟩
    clear H
    replace hW : Hid _ := hid hW
    go_wp2
    exact bodyPost_end (results_none rfl _ _ _) rfl (TeW.up ⟨v1, rfl, hW.out, hU, hK⟩)
  · have E : shE (.node x 4 p l r) = (⟨#[40, 110, 111, 116, 32]⟩ ++ shE l) ++ ⟨#[41]⟩ := rfl
    have hzl : s.1.length + (⟨#[110, 111, 116, 32]⟩ : ByteArray).size + (shE l).size + 2 ≤ 800000 := by
      rw [E, ByteArray.size_append, ByteArray.size_append] at hz
      have e1 : (⟨#[40, 110, 111, 116, 32]⟩ : ByteArray).size = 5 := rfl
      have e2 : (⟨#[41]⟩ : ByteArray).size = 1 := rfl
      have e3 : (⟨#[110, 111, 116, 32]⟩ : ByteArray).size = 4 := rfl
      omega
    have hS : puS [shE (.node x 4 p l r)] s = puS [⟨#[40]⟩, ⟨#[110, 111, 116, 32]⟩, shE l, ⟨#[41]⟩] s := puS_eq (by rw [E]; simp [catN, nums]) s
    rw [hS]
    have H : Hid _ := hid (wOfOne_any hW he2 hl hww.1 hb hc1 hc hx2 hex2 ⟨#[110, 111, 116, 32]⟩ hzl)
    clear h hW he he2 hx hx2 hex hex2 E hS hbx hw hww hl
    go_enter Tryz.func45, Tryz.ntmps45
    go_wp2_with fail
    refine Calls.mono H.out ?_
    rintro e w1 ⟨v1, rfl, hW, hU, hK⟩
    clear H
    replace hW : Hid _ := hid hW
    go_wp2
    exact bodyPost_end (results_none rfl _ _ _) rfl (TeW.up ⟨v1, rfl, hW.out, hU, hK⟩)

end Go.Proofs.YtnboooaockgoiaaGreatDoor
