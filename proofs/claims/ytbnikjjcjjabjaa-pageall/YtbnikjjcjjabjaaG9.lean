/- PageAll: what is there in a round. -/
import Derived.Test.YtbnikjjcjjabjaaG8
namespace Go.Proofs.Ytbnikjjcjjabjaa
open Go.RowKit
set_option linter.unusedVariables false

abbrev Op4 := Int × Int × Int × Int
/-- The slice reads as these operations. -/
structure RdO (w : World) (ao : Option Addr) (n c : Nat) (l : List Op4) : Prop where
  len : l.length = n
  cap : n ≤ c
  max : c ≤ 9223372036854775807
  cells : 0 < n → ∃ b o, ao = some ⟨b, o, none⟩ ∧ ∀ i, i < n → ∃ K S Z X : Int, (0 ≤ X ∧ X ≤ 255) ∧ (-9223372036854775808 ≤ K ∧ K ≤ 9223372036854775807) ∧ (-9223372036854775808 ≤ S ∧ S ≤ 9223372036854775807) ∧ (-9223372036854775808 ≤ Z ∧ Z ≤ 9223372036854775807) ∧ w.cell? ⟨b, o + i * 4, none⟩ = some (.int .i64 K) ∧ w.cell? ⟨b, o + i * 4 + 1, none⟩ = some (.int .i64 S) ∧ w.cell? ⟨b, o + i * 4 + 2, none⟩ = some (.int .i64 Z) ∧ w.cell? ⟨b, o + i * 4 + 3, none⟩ = some (.int .u8 X)
theorem RdO.later {w w' : World} {ao : Option Addr} {n c : Nat} {l : List Op4} (h : RdO w ao n c l) (hb : Below w.heap.size w w') : RdO w' ao n c l :=
  ⟨h.len, h.cap, h.max, fun hp => by
    obtain ⟨b, o, ha, hc⟩ := h.cells hp
    refine ⟨b, o, ha, fun i hi => ?_⟩
    obtain ⟨K, S, Z, X, h0, h1, h2, h3, c0, c1, c2, c3⟩ := hc i hi
    exact ⟨K, S, Z, X, h0, h1, h2, h3, cell_later hb c0, cell_later hb c1, cell_later hb c2, cell_later hb c3⟩⟩

theorem My.ne {W w : World} {g q : Nat} {R R' : List (List Int)} {bad : Nat → Prop} {B : Nat} (hm : My W w g R) (hs : Sl B W w q R' bad) : g ≠ q := by
  obtain ⟨C, p⟩ := hm.pg
  obtain ⟨v, vs, h1, _⟩ := hs.row
  intro e
  have := p.pg.row
  rw [e, h1] at this
  exact absurd (ty_eq this) (by decide)
theorem Sl.page {W w w' : World} {g q : Nat} {R R' : List (List Int)} {bad : Nat → Prop} {B : Nat} (hs : Sl B W w q R bad) (hm : My W w g R') (hr : Rest g w w') : Sl B W w' q R bad := by
  obtain ⟨C, p⟩ := hm.pg
  exact hs.rest hr p.pg.row ⟨by decide, by decide, fun e => absurd e (by decide)⟩
theorem My.ne8 {W w : World} {g x : Nat} {R : List (List Int)} {bs : List Int} (hm : My W w g R) (hx : Bx8 W w x bs) : g ≠ x := by
  obtain ⟨C, p⟩ := hm.pg
  intro e
  have := p.pg.row
  rw [e, hx.row] at this
  exact absurd (ty_eq this) (by decide)
theorem Sl.ne8 {W w : World} {q x : Nat} {R : List (List Int)} {bad : Nat → Prop} {B : Nat} {bs : List Int} (hs : Sl B W w q R bad) (hx : Bx8 W w x bs) : q ≠ x := by
  obtain ⟨v, vs, h1, _⟩ := hs.row
  intro e
  rw [e, hx.row] at h1
  exact absurd (ty_eq h1) (by decide)
def noP : Nat → Prop := fun _ => False
/-- Records are no longer than 200 bytes. -/
def Lt200 (R : List (List Int)) : Prop := ∀ i, i < R.length → (rc R i).length ≤ 200
theorem Lt200.lay {R : List (List Int)} (h : Lt200 R) {s : Nat} (hs : s ≤ R.length) (b : List Int) : Lt200 (layR R s b) := by
  rw [layR]
  split
  · rename_i e
    have hb : b.length ≤ 200 := by
      by_cases k : b.length ≤ 200
      · exact k
      · rw [layE_long (.inr (by omega))] at e; omega
    intro i hi
    by_cases k : i = s
    · rw [k, setR_same hs]; exact hb
    · rw [setR_ne hs b k]
      by_cases k2 : i < R.length
      · exact h i k2
      · rw [rc_out (by omega)]; exact Nat.zero_le _
  · exact h
theorem Lt200.drop {R : List (List Int)} (h : Lt200 R) (s : Nat) : Lt200 (trimR (R.set s [])) := by
  intro i hi
  rw [trimR_rc]
  by_cases e : i = s
  · by_cases k : s < R.length
    · subst e; simp [rc, k]
    · rw [rc_out (by simp; omega)]; exact Nat.zero_le _
  · have : rc (R.set s []) i = rc R i := by simp [rc, List.getElem?_set_ne (Ne.symm e)]
    rw [this]
    by_cases k2 : i < R.length
    · exact h i k2
    · rw [rc_out (by omega)]; exact Nat.zero_le _

/-- What is there in a round: a page, a list, the twin, the bytes, the operation. -/
structure St (W : World) (g q xt xb ob : Nat) (o : Op4) (bs : List Int) (R R' : List (List Int)) (w : World) : Prop where
  my : My W w g R
  sl : Sl W.heap.size W w q R' (fun y => y = xt)
  bt : Bx8 W w xt (bs ++ e5)
  bx : Bx8 W w xb bs
  ne : xb ≠ xt
  o : w.heap[ob]? = some (.cells #[.int .i64 o.1, .int .i64 o.2.1, .int .i64 o.2.2.1, .int .u8 o.2.2.2] 31 (0, 0))
section
variable {W w w' : World} {g q xt xb ob : Nat} {o : Op4} {bs : List Int} {R R' R1 : List (List Int)}
theorem St.c1 (h : St W g q xt xb ob o bs R R' w) : w.cell? ⟨ob, 1, none⟩ = some (.int .i64 o.2.1) := by rw [cell_of_row _ _ _ _ _ _ h.o]; rfl
theorem St.c0 (h : St W g q xt xb ob o bs R R' w) : w.cell? ⟨ob, 0, none⟩ = some (.int .i64 o.1) := by rw [cell_of_row _ _ _ _ _ _ h.o]; rfl
theorem St.later (h : St W g q xt xb ob o bs R R' w) (hb : Below w.heap.size w w') : St W g q xt xb ob o bs R R' w' :=
  ⟨h.my.later hb, h.sl.later hb, h.bt.later hb, h.bx.later hb, h.ne, by rw [hb.block ob (Array.getElem?_eq_some_iff.1 h.o).1]; exact h.o⟩
theorem St.drewN (h : St W g q xt xb ob o bs R R' w) (n : Nat) : St W g q xt xb ob o bs R R' (w.drewN n) := h.later (below_drewN (Below.refl _ _) n)
theorem St.drew (h : St W g q xt xb ob o bs R R' w) : St W g q xt xb ob o bs R R' w.drew := h.later (Below.refl _ w).drew
theorem St.page (h : St W g q xt xb ob o bs R R' w) (hr : Rest g w w') (hp : ∃ B', Pi w' g B' R1 allP) : St W g q xt xb ob o bs R1 R' w' := by
  have hog : ob ≠ g := fun e => by
    obtain ⟨C, p⟩ := h.my.pg
    have := p.pg.row
    rw [← e, h.o] at this
    exact absurd (ty_eq this) (by decide)
  exact ⟨h.my.turn hr hp, h.sl.page h.my hr, h.bt.rest hr (Ne.symm (h.my.ne8 h.bt)), h.bx.rest hr (Ne.symm (h.my.ne8 h.bx)), h.ne, by rw [hr.block ob (Array.getElem?_eq_some_iff.1 h.o).1 hog]; exact h.o⟩
theorem St.list (h : St W g q xt xb ob o bs R R' w) (hr : Rest q w w') (hs : Sl W.heap.size W w' q R1 (fun y => y = xt)) : St W g q xt xb ob o bs R R1 w' := by
  have hoq : ob ≠ q := fun e => by
    obtain ⟨v, vs, h1, _⟩ := h.sl.row
    rw [← e, h.o] at h1
    exact absurd (ty_eq h1) (by decide)
  exact ⟨h.my.other hr h.sl.own (h.my.ne h.sl), hs, h.bt.rest hr (Ne.symm (h.sl.ne8 h.bt)), h.bx.rest hr (Ne.symm (h.sl.ne8 h.bx)), h.ne, by rw [hr.block ob (Array.getElem?_eq_some_iff.1 h.o).1 hoq]; exact h.o⟩
/-- A store into the list's row. -/
theorem St.row (h : St W g q xt xb ob o bs R R' w) {r s : Nat} {v : Value} (hr : W.heap.size ≤ r) (hA : ∃ A, w.heap[r]? = some (.cells A 32 (0, 0))) (hs : Sl W.heap.size W (w.setCell ⟨r, s, none⟩ v) q R1 (fun y => y = xt)) : St W g q xt xb ob o bs R R1 (w.setCell ⟨r, s, none⟩ v) := by
  obtain ⟨A, hA⟩ := hA
  have hre := Rest.set r s w v
  have hor : ob ≠ r := fun e => by have := h.o; rw [e, hA] at this; exact absurd (ty_eq this) (by decide)
  have hgr : g ≠ r := fun e => by
    obtain ⟨C, p⟩ := h.my.pg
    have := p.pg.row
    rw [e, hA] at this
    exact absurd (ty_eq this) (by decide)
  have htr : xt ≠ r := fun e => by have := h.bt.row; rw [e, hA] at this; exact absurd (ty_eq this) (by decide)
  have hxr : xb ≠ r := fun e => by have := h.bx.row; rw [e, hA] at this; exact absurd (ty_eq this) (by decide)
  exact ⟨h.my.other hre hr hgr, hs, h.bt.rest hre htr, h.bx.rest hre hxr, h.ne, by rw [hre.block ob (Array.getElem?_eq_some_iff.1 h.o).1 hor]; exact h.o⟩

theorem st_rd (h : St W g q xt xb ob o bs R R' w) {k : Nat} (hl : bs.length = k) (hk : k ≤ 300) : Rd .u8 w (some ⟨xt, 0, none⟩) k (k + 3) bs := rd_prefix h.bt.row hl (by omega) (by omega)
theorem st_put (h : St W g q xt xb ob o bs R R' w) {k : Nat} (hl : bs.length = k) (hk : k ≤ 300) (hby : By bs) :
    Calls Try.prog 9 #[.pointer (some ⟨g, 0, none⟩), .slice (some ⟨xt, 0, none⟩) k (k + 3)] w fun e w' => e = .returned (.tuple #[.int .i64 (putS R bs), .int .i64 (layE R (vac R) bs)]) ∧ St W g q xt xb ob o bs (layR R (vac R) bs) R' w' := by
  obtain ⟨B, p⟩ := h.my.pg
  refine Calls.mono (put_any p (st_rd h hl hk) hby (fun a ha => by cases ha; exact Ne.symm (h.my.ne8 h.bt))) ?_
  rintro e w' ⟨rfl, hp, hr⟩
  exact ⟨rfl, h.page hr hp⟩
theorem st_putS (h : St W g q xt xb ob o bs R1 R w) {k : Nat} (hl : bs.length = k) (hk : k ≤ 300) (hR : R.length ≤ 62) (hL : Lt200 R) :
    Calls Try.prog 10 #[.pointer (some ⟨q, 0, none⟩), .slice (some ⟨xb, 0, none⟩) k k] w fun e w' => e = .returned (.tuple #[.int .i64 (putS R bs), .int .i64 (layE R (vac R) bs)]) ∧ St W g q xt xb ob o bs R1 (layR R (vac R) bs) w' := by
  refine Calls.mono (putS_any h.sl hR hL h.bx h.ne hl hk) ?_
  rintro e w' ⟨rfl, hs, hr⟩
  exact ⟨rfl, h.list hr hs⟩
theorem st_set (h : St W g q xt xb ob o bs R R' w) {k s : Nat} (hl : bs.length = k) (hk : k ≤ 300) (hby : By bs) (hs : rc R s ≠ []) :
    Calls Try.prog 14 #[.pointer (some ⟨g, 0, none⟩), .int .i64 (s : Int), .slice (some ⟨xt, 0, none⟩) k (k + 3)] w fun e w' => e = .returned (.int .i64 (layE R s bs)) ∧ St W g q xt xb ob o bs (layR R s bs) R' w' := by
  obtain ⟨B, p⟩ := h.my.pg
  refine Calls.mono (set_any p s hs (st_rd h hl hk) hby (fun a ha => by cases ha; exact Ne.symm (h.my.ne8 h.bt))) ?_
  rintro e w' ⟨rfl, hp, hr⟩
  exact ⟨rfl, h.page hr hp⟩
theorem st_setS (h : St W g q xt xb ob o bs R1 R w) {k s : Nat} (hl : bs.length = k) (hk : k ≤ 300) (hR : R.length ≤ 62) (hL : Lt200 R) (hs : rc R s ≠ []) :
    Calls Try.prog 15 #[.pointer (some ⟨q, 0, none⟩), .int .i64 (s : Int), .slice (some ⟨xb, 0, none⟩) k k] w fun e w' => e = .returned (.int .i64 (layE R s bs)) ∧ St W g q xt xb ob o bs R1 (layR R s bs) w' := by
  refine Calls.mono (setS_any h.sl hR hL hs h.bx h.ne hl hk) ?_
  rintro e w' ⟨rfl, hs, hr⟩
  exact ⟨rfl, h.list hr hs⟩
theorem st_setno (h : St W g q xt xb ob o bs R R' w) {z : Int} (hz : hasZ R z = false) (v : Value) :
    Calls Try.prog 14 #[.pointer (some ⟨g, 0, none⟩), .int .i64 z, v] w fun e w' => e = .returned (.int .i64 22) ∧ St W g q xt xb ob o bs R R' w' := by
  obtain ⟨B, p⟩ := h.my.pg
  refine Calls.mono (set_no p z hz v) ?_
  rintro e w' ⟨rfl, hr⟩
  exact ⟨rfl, h.later hr⟩
theorem st_setnoS (h : St W g q xt xb ob o bs R1 R w) {z : Int} (hz : hasZ R z = false) (v : Value) :
    Calls Try.prog 15 #[.pointer (some ⟨q, 0, none⟩), .int .i64 z, v] w fun e w' => e = .returned (.int .i64 22) ∧ St W g q xt xb ob o bs R1 R w' := by
  refine Calls.mono (setS_no h.sl hz v) ?_
  rintro e w' ⟨rfl, rfl⟩
  exact ⟨rfl, h⟩
theorem st_drop (h : St W g q xt xb ob o bs R R' w) {s : Nat} (hs : rc R s ≠ []) :
    Calls Try.prog 13 #[.pointer (some ⟨g, 0, none⟩), .int .i64 (s : Int)] w fun e w' => e = .returned (.int .i64 0) ∧ St W g q xt xb ob o bs (trimR (R.set s [])) R' w' := by
  obtain ⟨B, p⟩ := h.my.pg
  refine Calls.mono (drop_any p s hs) ?_
  rintro e w' ⟨rfl, hp, hr⟩
  exact ⟨rfl, h.page hr hp⟩
theorem st_dropno (h : St W g q xt xb ob o bs R R' w) {z : Int} (hz : hasZ R z = false) :
    Calls Try.prog 13 #[.pointer (some ⟨g, 0, none⟩), .int .i64 z] w fun e w' => e = .returned (.int .i64 22) ∧ St W g q xt xb ob o bs R R' w' := by
  obtain ⟨B, p⟩ := h.my.pg
  refine Calls.mono (drop_no p z hz) ?_
  rintro e w' ⟨rfl, hr⟩
  exact ⟨rfl, h.later hr⟩
theorem st_cut (h : St W g q xt xb ob o bs R1 R w) :
    Calls Try.prog 12 #[.pointer (some ⟨q, 0, none⟩)] w fun e w' => e = .returned (.tuple #[]) ∧ St W g q xt xb ob o bs R1 (trimR R) w' := by
  refine Calls.mono (cutS_any h.sl) ?_
  rintro e w' ⟨rfl, hs, hr⟩
  exact ⟨rfl, h.list hr hs⟩
end

theorem kd_bounds (K : Int) : 0 ≤ (wrap64 (K.tmod 7 + 7)).tmod 7 ∧ (wrap64 (K.tmod 7 + 7)).tmod 7 ≤ 6 := by
  have h1 := Int.tmod_lt_of_pos K (show (0 : Int) < 7 by decide)
  have h2 := Int.lt_tmod_of_pos K (show (0 : Int) < 7 by decide)
  have e : wrap64 (K.tmod 7 + 7) = K.tmod 7 + 7 := by unfold wrap64; omega
  rw [e, Int.tmod_eq_emod_of_nonneg (by omega)]
  omega

end Go.Proofs.Ytbnikjjcjjabjaa
