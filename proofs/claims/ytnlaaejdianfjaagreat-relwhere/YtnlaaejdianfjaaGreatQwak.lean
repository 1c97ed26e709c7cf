import Derived.Test.YtnlaaejdianfjaaGreatQwae
namespace Go.Proofs.YtnlaaejdianfjaaGreat
open Go.RowKit
set_option linter.unusedVariables false

/-- A column or a value. -/
def LeafOK (C : Cl2) (kind : Int) (t : Tr) : Prop := (∃ tb nm, t = tCol tb nm ∧ ColOK C kind tb nm) ∨ (∃ i s, t = .node 0 1 (kind, i, s, ⟨#[]⟩, ⟨#[]⟩) .nil .nil ∧ VaOK kind i s)
/-- An expression of a kind as the play makes it, so many within one another. -/
def Pl (C : Cl2) : Nat → Int → Tr → Prop
  | 0, kind, t => (kind = 1 ∨ kind = 2) ∧ LeafOK C kind t
  | n + 1, kind, t => ((kind = 1 ∨ kind = 2) ∧ LeafOK C kind t) ∨ (kind = 1 ∧ ((∃ l, t = tOne 3 l ∧ Pl C n 1 l) ∨ ∃ a l r, a < 3 ∧ t = tTwo (a + 5) l r ∧ Pl C n 1 l ∧ Pl C n 1 r)) ∨
      (kind = 3 ∧ ((∃ l, t = tOne 4 l ∧ Pl C n 3 l) ∨ (∃ a l r, a < 2 ∧ t = tTwo (a + 14) l r ∧ Pl C n 3 l ∧ Pl C n 3 r) ∨ ∃ a k l r, a < 6 ∧ (k = 1 ∨ k = 2) ∧ t = tTwo (a + 8) l r ∧ Pl C n k l ∧ Pl C n k r))
/-- What Expr tells. -/
def TePl (g r : Nat) (w : World) (X : Tr → Prop) (e : Ending) (w' : World) : Prop :=
  ∃ o p ao n c t r', e = .returned (exV o p (.slice ao n c)) ∧ X t ∧ Less r r' ∧ Pk w' g r' ∧ But g w w' ∧ Ex (fun b => w.heap.size ≤ b) w' t (exV o p (.slice ao n c))
theorem TePl.fin {g r r' : Nat} {w w1 : World} {X : Tr → Prop} {o : Int} {p : Pay} {ao : Option Addr} {n c : Nat} {t : Tr} (hg : g < w.heap.size) (hX : X t) (hl : Less r r') (hp : Pk w1 g r') (hB : But g w w1)
    (hx : Ex (fun b => w.heap.size + 1 ≤ b) w1 t (exV o p (.slice ao n c))) :
    TePl g r w X (.returned (exV o p (.slice ao n c))) (set7 w1 w.heap.size o p (.slice ao n c)) :=
  ⟨o, p, ao, n, c, t, r', rfl, hX, hl, hp.set7 hg _ _ _, hB.set7 (Nat.le_refl _) _ _ _, (hx.set7 (by omega) _ _ _).mono fun k hk _ => by omega⟩
/-- The columns that Expr is given. -/
structure Cols (w : World) (g : Nat) (C : Cl2) (a : Option Addr) (c : Nat) (a2 : Option Addr) (c2 : Nat) : Prop where
  its : RowIs eItem (fun b => b ≠ g) w (.slice a C.length c) (C.map Prod.fst)
  kds : RowIs eInt (fun b => b ≠ g) w (.slice a2 C.length c2) (C.map Prod.snd)
  few : C.length ≤ 100
  one : ∃ x ∈ C, x.2 = 1
  two : ∃ x ∈ C, x.2 = 2
theorem Cols.but {w w' : World} {g : Nat} {C : Cl2} {a : Option Addr} {c : Nat} {a2 : Option Addr} {c2 : Nat} (h : Cols w g C a c a2 c2) (hb : But g w w') : Cols w' g C a c a2 c2 :=
  ⟨h.its.keep (by decide) fun b hq hlt => hb.block b hlt hq, h.kds.keep (by decide) fun b hq hlt => hb.block b hlt hq, h.few, h.one, h.two⟩
theorem Cols.has {w : World} {g : Nat} {C : Cl2} {a : Option Addr} {c : Nat} {a2 : Option Addr} {c2 : Nat} (h : Cols w g C a c a2 c2) {k : Int} (hk : k = 1 ∨ k = 2) : ∃ x ∈ C, x.2 = k := by
  rcases hk with rfl | rfl
  · exact h.one
  · exact h.two
/-- The contract of Expr, where so many may lie within one another. -/
def PlayOK (n : Nat) : Prop := ∀ {g r : Nat} {w : World} {C : Cl2} {a : Option Addr} {c : Nat} {a2 : Option Addr} {c2 : Nat} (kind : Int) (deep : Nat), Pk w g r → Cols w g C a c a2 c2 → (kind = 1 ∨ kind = 2 ∨ (kind = 3 ∧ 0 < n)) → deep + n = 5 →
  Calls Tryz.prog 22 #[.pointer (some ⟨g, 0, none⟩), .slice a C.length c, .slice a2 C.length c2, .int .i64 kind, .int .i64 (deep : Int)] w (TePl g r w (Pl C n kind))
abbrev zE2 : Obj := .cells #[.int .i64 0, .int .i64 0, .int .i64 0, .string ⟨#[]⟩, .string ⟨#[]⟩, .string ⟨#[]⟩, .slice none 0 0] 63

/-- (the walks) -/
theorem set7_past {w : World} {b : Nat} (hb : b < w.heap.size) {o : Obj} {op : Int} {p : Pay} {sl : Value} : set7 (w.alloc o) b op p sl = (set7 w b op p sl).alloc o := by
  unfold set7
  rw [World.setCell_alloc_past _ _ _ _ (by simpa [World.setCell] using hb), World.setCell_alloc_past _ _ _ _ (by simpa [World.setCell] using hb), World.setCell_alloc_past _ _ _ _ (by simpa [World.setCell] using hb), World.setCell_alloc_past _ _ _ _ (by simpa [World.setCell] using hb), World.setCell_alloc_past _ _ _ _ (by simpa [World.setCell] using hb), World.setCell_alloc_past _ _ _ _ (by simpa [World.setCell] using hb), World.setCell_alloc_past _ _ _ _ (by simpa [World.setCell] using hb)]
theorem pl_z {C : Cl2} {kind : Int} {t : Tr} (hk : kind = 1 ∨ kind = 2) (h : LeafOK C kind t) : Pl C 0 kind t := ⟨hk, h⟩
theorem pl_s {C : Cl2} {n : Nat} {kind : Int} {t : Tr} (hk : kind = 1 ∨ kind = 2) (h : LeafOK C kind t) : Pl C (n + 1) kind t := .inl ⟨hk, h⟩

set_option maxRecDepth 100000 in
set_option maxHeartbeats 8000000 in
theorem play_bool {n : Nat} (ih : PlayOK n) {g r : Nat} {w : World} {C : Cl2} {a : Option Addr} {c : Nat} {a2 : Option Addr} {c2 : Nat} (deep : Nat) (h : Pk w g r) (hC : Cols w g C a c a2 c2) (hd : deep + (n + 1) = 5) :
    Calls Tryz.prog 22 #[.pointer (some ⟨g, 0, none⟩), .slice a C.length c, .slice a2 C.length c2, .int .i64 3, .int .i64 (deep : Int)] w (TePl g r w (Pl C (n + 1) 3)) := by
  have hgl := h.lt
  have b0 : Be (w.alloc zE2) w.heap.size 0 nilP (.slice none 0 0) := Be.new w 0 nilP (.slice none 0 0)
  have HN : Hid _ := hid (num_any (h.alloc zE2) 8 (by decide) (by decide))
  have HI : Hid (∀ kind w1 r1, But g w w1 → Pk w1 g r1 → (kind = 1 ∨ kind = 2 ∨ (kind = 3 ∧ 0 < n)) → Calls Tryz.prog 22 #[.pointer (some ⟨g, 0, none⟩), .slice a C.length c, .slice a2 C.length c2, .int .i64 kind, .int .i64 ((deep : Int) + 1)] w1 (TePl g r1 w1 (Pl C n kind))) := hid fun kind w1 r1 hb hp hk => by
    have := ih kind (deep + 1) hp (hC.but hb) hk (by omega)
    rwa [show (((deep + 1 : Nat)) : Int) = (deep : Int) + 1 from by omega] at this
  have hB0 : But g w (w.alloc zE2) := (But.refl g w).alloc _
  have hd4 : deep ≤ 4 := by omega
  clear h hC ih
  go_enter Tryz.func22, Tryz.ntmps22
  go_wp2_with fail
  refine Calls.mono HN.out ?_
  rintro e w1 ⟨k, r1, rfl, hk, hl1, hp1, hb1⟩
  have hB1 := hB0.trans hb1
  have b1 := b0.but hb1 (by omega)
  clear HN b0 hB0 hb1
  by_cases h3 : 3 < deep
  · have g3 : decide ((3 : Int) < (deep : Int)) = true := by simp; omega
    have HN2 : Hid _ := hid (num_any hp1 2 (by decide) (by decide))
    have hs1 := hB1.size
    have hz1 := b1.lt
    go_wp2_with fail
    refine Calls.mono HN2.out ?_
    rintro e w2 ⟨k2, r2, rfl, hk2, hl2, hp2, hb2⟩
    have hB2 := hB1.trans hb2
    have b2 := b1.but hb2 (by omega)
    clear HN2 b1 hB1 hb2 hp1
    have HN3 : Hid _ := hid (num_any hp2 6 (by decide) (by decide))
    have hz2 := b2.lt
    go_wp2_with fail
    refine Calls.mono HN3.out ?_
    rintro e w3 ⟨k3, r3, rfl, hk3, hl3, hp3, hb3⟩
    have hB3 := hB2.trans hb3
    have b3 := b2.but hb3 (by omega)
    have HC1 : Hid _ := hid (HI.out (1 + (k2 : Int)) w3 r3 hB3 hp3 (by omega))
    clear HN3 b2 hB2 hb3 hp3
    have hs3 := hB3.size
    go_wp2_with fail
    refine Calls.mono HC1.out ?_
    rintro e w4 ⟨o1, p1, a1, n1, c1, t1, r4, rfl, hX1, hl4, hp4, hb4, hx1⟩
    have hB4 := hB3.trans hb4
    have b4 := b3.but hb4 (by omega)
    have hx1' : Ex (fun b => w.heap.size + 1 ≤ b) w4 t1 (exV o1 p1 (.slice a1 n1 c1)) := hx1.mono fun b hb _ => by have := b3.lt; omega
    have HC2 : Hid _ := hid (HI.out (1 + (k2 : Int)) w4 r4 hB4 hp4 (by omega))
    have hs4 := hb4.size
    have hz4 := b3.lt
    clear HC1 b3 hB3 hb4 hp4 hx1
    go_wp2_with fail
    refine Calls.mono HC2.out ?_
    rintro e w5 ⟨o2, p2, a3, n2, c3, t2, r5, rfl, hX2, hl5, hp5, hb5, hx2⟩
    have hB5 := hB4.trans hb5
    have b5 := b4.but hb5 (by omega)
    have hx1 := hx1'.but hb5 (by omega)
    have hx2' : Ex (fun b => w.heap.size + 1 ≤ b) w5 t2 (exV o2 p2 (.slice a3 n2 c3)) := hx2.mono fun b hb _ => by omega
    have HT : Hid _ := hid (playTwo_any (8 + (k3 : Int)) o1 p1 (.slice a1 n1 c1) o2 p2 (.slice a3 n2 c3) w5)
    have hz5 := b4.lt
    have hs5 := hb5.size
    clear HC2 b4 hB4 hb5 hx2 hx1' HI
    go_wp2_with fail
    refine Calls.mono HT.out ?_
    rintro e w6 ⟨b, rfl, hbb, hb6, ce1, ce2⟩
    have hB6 := hB5.trans (But.of hb6)
    have b6 := b5.later hb6
    have hp6 := hp5.later hb6
    have hx : Ex (fun b => w.heap.size + 1 ≤ b) w6 (tTwo (k3 + 8) t1 t2) (exV ((k3 + 8 : Nat) : Int) nilP (.slice (some ⟨b, 0, none⟩) 2 2)) := Ex.two (by omega) ce1 ce2 (hx1.later hb6) (hx2'.later hb6)
    rw [show ((k3 + 8 : Nat) : Int) = 8 + (k3 : Int) from by omega] at hx
    have T : Hid (TePl g r w (Pl C (n + 1) 3) (.returned (exV (8 + (k3 : Int)) nilP (.slice (some ⟨b, 0, none⟩) 2 2))) (set7 w6 w.heap.size (8 + (k3 : Int)) nilP (.slice (some ⟨b, 0, none⟩) 2 2))) := hid (TePl.fin hgl (.inr (.inr ⟨rfl, .inr (.inr ⟨k3, 1 + (k2 : Int), t1, t2, hk3, by omega, rfl, hX1, hX2⟩)⟩)) (hl1.on (by have := hl2.1; have := hl3.1; have := hl4.1; have := hl5.1; omega)) hp6 hB6 hx)
    obtain ⟨d0, d1, d2, d3, d4, d5, d6⟩ := b6.cells
    obtain ⟨f0, f1, f2, f3, f4, f5, f6⟩ := b6.free
    have hz6 := b6.lt
    clear HT hx hx1 hx2' hp5 hp6 hB5 hB6 b5 b6 ce1 ce2 hb6 hX1 hX2
    unfold exV at T ⊢
    simp only [nilP] at T d0 d1 d2 d3 d4 d5 d6 ⊢
    go_wp2
    refine bodyPost_ret (v := .agg #[.int .i64 (8 + (k3 : Int)), .int .i64 0, .int .i64 0, .string ⟨#[]⟩, .string ⟨#[]⟩, .string ⟨#[]⟩, .slice (some ⟨b, 0, none⟩) 2 2]) (by simp [results, Tryz.results22, go_sem, d0, d1, d2, d3, d4, d5, d6]) rfl ?_
    exact T.out
  · have g3 : decide ((3 : Int) < (deep : Int)) = false := by simp; omega
    by_cases h4 : k < 4
    · have g4 : decide ((k : Int) < 4) = true := by simp; omega
      have HN2 : Hid _ := hid (num_any hp1 2 (by decide) (by decide))
      have hs1 := hB1.size
      have hz1 := b1.lt
      go_wp2_with fail
      refine Calls.mono HN2.out ?_
      rintro e w2 ⟨k2, r2, rfl, hk2, hl2, hp2, hb2⟩
      have hB2 := hB1.trans hb2
      have b2 := b1.but hb2 (by omega)
      clear HN2 b1 hB1 hb2 hp1
      have HN3 : Hid _ := hid (num_any hp2 6 (by decide) (by decide))
      have hz2 := b2.lt
      go_wp2_with fail
      refine Calls.mono HN3.out ?_
      rintro e w3 ⟨k3, r3, rfl, hk3, hl3, hp3, hb3⟩
      have hB3 := hB2.trans hb3
      have b3 := b2.but hb3 (by omega)
      have HC1 : Hid _ := hid (HI.out (1 + (k2 : Int)) w3 r3 hB3 hp3 (by omega))
      clear HN3 b2 hB2 hb3 hp3
      have hs3 := hB3.size
      go_wp2_with fail
      refine Calls.mono HC1.out ?_
      rintro e w4 ⟨o1, p1, a1, n1, c1, t1, r4, rfl, hX1, hl4, hp4, hb4, hx1⟩
      have hB4 := hB3.trans hb4
      have b4 := b3.but hb4 (by omega)
      have hx1' : Ex (fun b => w.heap.size + 1 ≤ b) w4 t1 (exV o1 p1 (.slice a1 n1 c1)) := hx1.mono fun b hb _ => by have := b3.lt; omega
      have HC2 : Hid _ := hid (HI.out (1 + (k2 : Int)) w4 r4 hB4 hp4 (by omega))
      have hs4 := hb4.size
      have hz4 := b3.lt
      clear HC1 b3 hB3 hb4 hp4 hx1
      go_wp2_with fail
      refine Calls.mono HC2.out ?_
      rintro e w5 ⟨o2, p2, a3, n2, c3, t2, r5, rfl, hX2, hl5, hp5, hb5, hx2⟩
      have hB5 := hB4.trans hb5
      have b5 := b4.but hb5 (by omega)
      have hx1 := hx1'.but hb5 (by omega)
      have hx2' : Ex (fun b => w.heap.size + 1 ≤ b) w5 t2 (exV o2 p2 (.slice a3 n2 c3)) := hx2.mono fun b hb _ => by omega
      have HT : Hid _ := hid (playTwo_any (8 + (k3 : Int)) o1 p1 (.slice a1 n1 c1) o2 p2 (.slice a3 n2 c3) w5)
      have hz5 := b4.lt
      have hs5 := hb5.size
      clear HC2 b4 hB4 hb5 hx2 hx1' HI
      go_wp2_with fail
      refine Calls.mono HT.out ?_
      rintro e w6 ⟨b, rfl, hbb, hb6, ce1, ce2⟩
      have hB6 := hB5.trans (But.of hb6)
      have b6 := b5.later hb6
      have hp6 := hp5.later hb6
      have hx : Ex (fun b => w.heap.size + 1 ≤ b) w6 (tTwo (k3 + 8) t1 t2) (exV ((k3 + 8 : Nat) : Int) nilP (.slice (some ⟨b, 0, none⟩) 2 2)) := Ex.two (by omega) ce1 ce2 (hx1.later hb6) (hx2'.later hb6)
      rw [show ((k3 + 8 : Nat) : Int) = 8 + (k3 : Int) from by omega] at hx
      have T : Hid (TePl g r w (Pl C (n + 1) 3) (.returned (exV (8 + (k3 : Int)) nilP (.slice (some ⟨b, 0, none⟩) 2 2))) (set7 w6 w.heap.size (8 + (k3 : Int)) nilP (.slice (some ⟨b, 0, none⟩) 2 2))) := hid (TePl.fin hgl (.inr (.inr ⟨rfl, .inr (.inr ⟨k3, 1 + (k2 : Int), t1, t2, hk3, by omega, rfl, hX1, hX2⟩)⟩)) (hl1.on (by have := hl2.1; have := hl3.1; have := hl4.1; have := hl5.1; omega)) hp6 hB6 hx)
      obtain ⟨d0, d1, d2, d3, d4, d5, d6⟩ := b6.cells
      obtain ⟨f0, f1, f2, f3, f4, f5, f6⟩ := b6.free
      have hz6 := b6.lt
      clear HT hx hx1 hx2' hp5 hp6 hB5 hB6 b5 b6 ce1 ce2 hb6 hX1 hX2
      unfold exV at T ⊢
      simp only [nilP] at T d0 d1 d2 d3 d4 d5 d6 ⊢
      go_wp2
      refine bodyPost_ret (v := .agg #[.int .i64 (8 + (k3 : Int)), .int .i64 0, .int .i64 0, .string ⟨#[]⟩, .string ⟨#[]⟩, .string ⟨#[]⟩, .slice (some ⟨b, 0, none⟩) 2 2]) (by simp [results, Tryz.results22, go_sem, d0, d1, d2, d3, d4, d5, d6]) rfl ?_
      exact T.out
    · have g4 : decide ((k : Int) < 4) = false := by simp; omega
      have hn0 : 0 < n := by omega
      by_cases h5 : k = 4
      · subst h5
        have HC1 : Hid _ := hid (HI.out 3 w1 r1 hB1 hp1 (by omega))
        have hs3 := hB1.size
        have hz3 := b1.lt
        go_wp2_with fail
        refine Calls.mono HC1.out ?_
        rintro e w4 ⟨o1, p1, a1, n1, c1, t1, r4, rfl, hX1, hl4, hp4, hb4, hx1⟩
        have hB4 := hB1.trans hb4
        have b4 := b1.but hb4 (by omega)
        have hx1' : Ex (fun b => w.heap.size + 1 ≤ b) w4 t1 (exV o1 p1 (.slice a1 n1 c1)) := hx1.mono fun b hb _ => by omega
        have hb6 := bal (Below.refl _ w4) (.cells #[.int .i64 o1, .int .i64 p1.1, .int .i64 p1.2.1, .string p1.2.2.1, .string p1.2.2.2.1, .string p1.2.2.2.2, .slice a1 n1 c1] 63)
        have ce := (Be.new w4 o1 p1 (.slice a1 n1 c1)).cells
        have hB6 := hB4.trans (But.of hb6)
        have b6 := b4.later hb6
        have hp6 := hp4.later hb6
        have hz4 := b4.lt
        have hx : Ex (fun b => w.heap.size + 1 ≤ b) _ (tOne 4 t1) (exV ((4 : Nat) : Int) nilP (.slice (some ⟨w4.heap.size, 0, none⟩) 1 1)) := Ex.one (by omega) ce (hx1'.later hb6)
        have T : Hid (TePl g r w (Pl C (n + 1) 3) (.returned (exV 4 nilP (.slice (some ⟨w4.heap.size, 0, none⟩) 1 1))) (set7 _ w.heap.size 4 nilP (.slice (some ⟨w4.heap.size, 0, none⟩) 1 1))) := hid (TePl.fin hgl (.inr (.inr ⟨rfl, .inl ⟨t1, rfl, hX1⟩⟩)) (hl1.on (by have := hl4.1; omega)) hp6 hB6 hx)
        rw [set7_past hz4] at T
        obtain ⟨d0, d1, d2, d3, d4, d5, d6⟩ := b4.cells
        obtain ⟨f0, f1, f2, f3, f4, f5, f6⟩ := b4.free
        have hz6 := b6.lt
        clear HC1 HI hx hx1 hx1' hp4 hp6 hB4 hB6 b4 b6 ce hb6 hb4 hX1 hp1 hB1 b1
        unfold exV at T ⊢
        simp only [nilP] at T d0 d1 d2 d3 d4 d5 d6 ⊢
        go_wp2
        refine bodyPost_ret (v := .agg #[.int .i64 4, .int .i64 0, .int .i64 0, .string ⟨#[]⟩, .string ⟨#[]⟩, .string ⟨#[]⟩, .slice (some ⟨w4.heap.size, 0, none⟩) 1 1]) (by simp [results, Tryz.results22, go_sem, hz4, d0, d1, d2, d3, d4, d5, d6]) rfl ?_
        exact T.out
      · have g5 : ((k : Int) == 4) = false := by simp; omega
        have HN3 : Hid _ := hid (num_any hp1 2 (by decide) (by decide))
        have hz2 := b1.lt
        go_wp2_with fail
        refine Calls.mono HN3.out ?_
        rintro e w3 ⟨k3, r3, rfl, hk3, hl3, hp3, hb3⟩
        have hB3 := hB1.trans hb3
        have b3 := b1.but hb3 (by omega)
        have HC1 : Hid _ := hid (HI.out 3 w3 r3 hB3 hp3 (by omega))
        clear HN3 b1 hB1 hb3 hp3
        have hs3 := hB3.size
        go_wp2_with fail
        refine Calls.mono HC1.out ?_
        rintro e w4 ⟨o1, p1, a1, n1, c1, t1, r4, rfl, hX1, hl4, hp4, hb4, hx1⟩
        have hB4 := hB3.trans hb4
        have b4 := b3.but hb4 (by omega)
        have hx1' : Ex (fun b => w.heap.size + 1 ≤ b) w4 t1 (exV o1 p1 (.slice a1 n1 c1)) := hx1.mono fun b hb _ => by have := b3.lt; omega
        have HC2 : Hid _ := hid (HI.out 3 w4 r4 hB4 hp4 (by omega))
        have hs4 := hb4.size
        have hz4 := b3.lt
        clear HC1 b3 hB3 hb4 hp4 hx1
        go_wp2_with fail
        refine Calls.mono HC2.out ?_
        rintro e w5 ⟨o2, p2, a3, n2, c3, t2, r5, rfl, hX2, hl5, hp5, hb5, hx2⟩
        have hB5 := hB4.trans hb5
        have b5 := b4.but hb5 (by omega)
        have hx1 := hx1'.but hb5 (by omega)
        have hx2' : Ex (fun b => w.heap.size + 1 ≤ b) w5 t2 (exV o2 p2 (.slice a3 n2 c3)) := hx2.mono fun b hb _ => by omega
        have HT : Hid _ := hid (playTwo_any (14 + (k3 : Int)) o1 p1 (.slice a1 n1 c1) o2 p2 (.slice a3 n2 c3) w5)
        have hz5 := b4.lt
        have hs5 := hb5.size
        clear HC2 b4 hB4 hb5 hx2 hx1' HI
        go_wp2_with fail
        refine Calls.mono HT.out ?_
        rintro e w6 ⟨b, rfl, hbb, hb6, ce1, ce2⟩
        have hB6 := hB5.trans (But.of hb6)
        have b6 := b5.later hb6
        have hp6 := hp5.later hb6
        have hx : Ex (fun b => w.heap.size + 1 ≤ b) w6 (tTwo (k3 + 14) t1 t2) (exV ((k3 + 14 : Nat) : Int) nilP (.slice (some ⟨b, 0, none⟩) 2 2)) := Ex.two (by omega) ce1 ce2 (hx1.later hb6) (hx2'.later hb6)
        rw [show ((k3 + 14 : Nat) : Int) = 14 + (k3 : Int) from by omega] at hx
        have T : Hid (TePl g r w (Pl C (n + 1) 3) (.returned (exV (14 + (k3 : Int)) nilP (.slice (some ⟨b, 0, none⟩) 2 2))) (set7 w6 w.heap.size (14 + (k3 : Int)) nilP (.slice (some ⟨b, 0, none⟩) 2 2))) := hid (TePl.fin hgl (.inr (.inr ⟨rfl, .inr (.inl ⟨k3, t1, t2, hk3, rfl, hX1, hX2⟩)⟩)) (hl1.on (by have := hl3.1; have := hl4.1; have := hl5.1; omega)) hp6 hB6 hx)
        obtain ⟨d0, d1, d2, d3, d4, d5, d6⟩ := b6.cells
        obtain ⟨f0, f1, f2, f3, f4, f5, f6⟩ := b6.free
        have hz6 := b6.lt
        clear HT hx hx1 hx2' hp5 hp6 hB5 hB6 b5 b6 ce1 ce2 hb6 hX1 hX2
        unfold exV at T ⊢
        simp only [nilP] at T d0 d1 d2 d3 d4 d5 d6 ⊢
        go_wp2
        refine bodyPost_ret (v := .agg #[.int .i64 (14 + (k3 : Int)), .int .i64 0, .int .i64 0, .string ⟨#[]⟩, .string ⟨#[]⟩, .string ⟨#[]⟩, .slice (some ⟨b, 0, none⟩) 2 2]) (by simp [results, Tryz.results22, go_sem, d0, d1, d2, d3, d4, d5, d6]) rfl ?_
        exact T.out
set_option maxRecDepth 100000 in
set_option maxHeartbeats 8000000 in
theorem play_text0 {g r : Nat} {w : World} {C : Cl2} {a : Option Addr} {c : Nat} {a2 : Option Addr} {c2 : Nat} (deep : Nat) (h : Pk w g r) (hC : Cols w g C a c a2 c2) (hd : deep + 0 = 5) :
    Calls Tryz.prog 22 #[.pointer (some ⟨g, 0, none⟩), .slice a C.length c, .slice a2 C.length c2, .int .i64 2, .int .i64 (deep : Int)] w (TePl g r w (Pl C 0 2)) := by
  have hgl := h.lt
  have b0 : Be (w.alloc zE2) w.heap.size 0 nilP (.slice none 0 0) := Be.new w 0 nilP (.slice none 0 0)
  have HN : Hid _ := hid (num_any (h.alloc zE2) 8 (by decide) (by decide))
  have HCl : Hid (∀ w1 r1, But g w w1 → Pk w1 g r1 → _) := hid fun w1 r1 hb hp => col_any hp (hC.but hb).its (hC.but hb).kds hC.few 2 (hC.has (.inr rfl))
  have hB0 : But g w (w.alloc zE2) := (But.refl g w).alloc _
  have hd4 : deep ≤ 5 := by omega
  clear h hC
  go_enter Tryz.func22, Tryz.ntmps22
  go_wp2_with fail
  refine Calls.mono HN.out ?_
  rintro e w1 ⟨k, r1, rfl, hk, hl1, hp1, hb1⟩
  have hB1 := hB0.trans hb1
  have b1 := b0.but hb1 (by omega)
  clear HN b0 hB0 hb1
  have HC : Hid _ := hid (HCl.out w1 r1 hB1 hp1)
  have hz1 := b1.lt
  go_wp2_with fail
  refine Calls.mono HC.out ?_
  rintro e w2 ⟨tb, nm, r2, rfl, hcol, hl2, hp2, hb2⟩
  have hB2 := hB1.trans hb2
  have b2 := b1.but hb2 (by omega)
  have hz2 := b2.lt
  have hw2 := hb2.size
  clear HC HCl b1 hB1 hb2 hp1
  unfold exV
  simp only
  go_upto_region 10 with fail
  have hp3 := hp2.alloc (.cells #[.int .i64 2, .int .i64 0, .int .i64 0, .string ⟨#[]⟩, .string tb, .string nm, .slice none 0 0] 63)
  have hB3 := hB2.alloc (.cells #[.int .i64 2, .int .i64 0, .int .i64 0, .string ⟨#[]⟩, .string tb, .string nm, .slice none 0 0] 63)
  have b3 := b2.later (bal (Below.refl _ w2) (.cells #[.int .i64 2, .int .i64 0, .int .i64 0, .string ⟨#[]⟩, .string tb, .string nm, .slice none 0 0] 63))
  have e3 := Be.new w2 2 (0, 0, ⟨#[]⟩, tb, nm) (.slice none 0 0)
  simp only at e3
  clear hp2 hB2 b2
  generalize w2.alloc (.cells #[.int .i64 2, .int .i64 0, .int .i64 0, .string ⟨#[]⟩, .string tb, .string nm, .slice none 0 0] 63) = w3 at *
  generalize w2.heap.size = q at *
  have hz3 := b3.lt
  have hq3 := e3.lt
  by_cases h4 : k < 4
  · have g4 : decide ((k : Int) < 4) = true := by simp; omega
    have hx : Ex (fun b => w.heap.size + 1 ≤ b) w3 (tCol tb nm) (exV ((2 : Nat) : Int) (0, 0, ⟨#[]⟩, tb, nm) (.slice none 0 0)) := Ex.leaf 0 2 _
    have T : Hid (TePl g r w (Pl C 0 2) (.returned (exV 2 (0, 0, ⟨#[]⟩, tb, nm) (.slice none 0 0))) (set7 w3 w.heap.size 2 (0, 0, ⟨#[]⟩, tb, nm) (.slice none 0 0))) := hid (TePl.fin hgl (pl_z (.inr rfl) (.inl ⟨tb, nm, rfl, hcol⟩)) (hl1.on hl2) hp3 hB3 hx)
    obtain ⟨k0, k1, k2, k3, k4, k5, k6⟩ := e3.cells
    obtain ⟨d0, d1, d2, d3, d4, d5, d6⟩ := b3.cells
    obtain ⟨f0, f1, f2, f3, f4, f5, f6⟩ := b3.free
    clear hx e3 b3 hp3 hB3
    unfold exV at T
    simp only [nilP] at T k0 k1 k2 k3 k4 k5 k6 d0 d1 d2 d3 d4 d5 d6
    go_wp2
    refine bodyPost_ret (v := .agg #[.int .i64 2, .int .i64 0, .int .i64 0, .string ⟨#[]⟩, .string tb, .string nm, .slice none 0 0]) (by simp [results, Tryz.results22, go_sem, d0, d1, d2, d3, d4, d5, d6]) rfl ?_
    exact T.out
  · have g4 : decide ((k : Int) < 4) = false := by simp; omega
    clear e3 hq3 hcol
    have HV : Hid _ := hid (value_any hp3 2 (.inr rfl))
    clear hp3
    go_wp2_with fail
    refine Calls.mono HV.out ?_
    rintro e w4 ⟨i4, s4, r4, rfl, hva, hl4, hp4, hb4⟩
    have hB4 := hB3.trans hb4
    have b4 := b3.but hb4 (by omega)
    have HL : Hid _ := hid (lit_any 2 i4 s4 w4)
    clear HV hB3 b3 hb4
    go_wp2_with fail
    refine Calls.mono HL.out ?_
    rintro e w5 ⟨rfl, hb5⟩
    have hB5 := hB4.trans (But.of hb5)
    have b5 := b4.later hb5
    have hp5 := hp4.later hb5
    have hx : Ex (fun b => w.heap.size + 1 ≤ b) w5 (.node 0 1 (2, i4, s4, ⟨#[]⟩, ⟨#[]⟩) .nil .nil) (exV ((1 : Nat) : Int) (2, i4, s4, ⟨#[]⟩, ⟨#[]⟩) (.slice none 0 0)) := Ex.leaf 0 1 _
    have T : Hid (TePl g r w (Pl C 0 2) (.returned (exV 1 (2, i4, s4, ⟨#[]⟩, ⟨#[]⟩) (.slice none 0 0))) (set7 w5 w.heap.size 1 (2, i4, s4, ⟨#[]⟩, ⟨#[]⟩) (.slice none 0 0))) := hid (TePl.fin hgl (pl_z (.inr rfl) (.inr ⟨i4, s4, rfl, hva⟩)) (hl1.on (by omega)) hp5 hB5 hx)
    obtain ⟨d0, d1, d2, d3, d4, d5, d6⟩ := b5.cells
    obtain ⟨f0, f1, f2, f3, f4, f5, f6⟩ := b5.free
    have hz5 := b5.lt
    clear hx b5 hp4 hp5 hB4 hB5 HL b4 hb5
    unfold exV at T ⊢
    simp only [nilP] at T d0 d1 d2 d3 d4 d5 d6 ⊢
    go_wp2
    refine bodyPost_ret (v := .agg #[.int .i64 1, .int .i64 2, .int .i64 i4, .string s4, .string ⟨#[]⟩, .string ⟨#[]⟩, .slice none 0 0]) (by simp [results, Tryz.results22, go_sem, d0, d1, d2, d3, d4, d5, d6]) rfl ?_
    exact T.out

set_option maxRecDepth 100000 in
set_option maxHeartbeats 8000000 in
theorem play_text {n : Nat} {g r : Nat} {w : World} {C : Cl2} {a : Option Addr} {c : Nat} {a2 : Option Addr} {c2 : Nat} (deep : Nat) (h : Pk w g r) (hC : Cols w g C a c a2 c2) (hd : deep + (n + 1) = 5) :
    Calls Tryz.prog 22 #[.pointer (some ⟨g, 0, none⟩), .slice a C.length c, .slice a2 C.length c2, .int .i64 2, .int .i64 (deep : Int)] w (TePl g r w (Pl C (n + 1) 2)) := by
  have hgl := h.lt
  have b0 : Be (w.alloc zE2) w.heap.size 0 nilP (.slice none 0 0) := Be.new w 0 nilP (.slice none 0 0)
  have HN : Hid _ := hid (num_any (h.alloc zE2) 8 (by decide) (by decide))
  have HCl : Hid (∀ w1 r1, But g w w1 → Pk w1 g r1 → _) := hid fun w1 r1 hb hp => col_any hp (hC.but hb).its (hC.but hb).kds hC.few 2 (hC.has (.inr rfl))
  have hB0 : But g w (w.alloc zE2) := (But.refl g w).alloc _
  have hd4 : deep ≤ 5 := by omega
  clear h hC
  go_enter Tryz.func22, Tryz.ntmps22
  go_wp2_with fail
  refine Calls.mono HN.out ?_
  rintro e w1 ⟨k, r1, rfl, hk, hl1, hp1, hb1⟩
  have hB1 := hB0.trans hb1
  have b1 := b0.but hb1 (by omega)
  clear HN b0 hB0 hb1
  have HC : Hid _ := hid (HCl.out w1 r1 hB1 hp1)
  have hz1 := b1.lt
  go_wp2_with fail
  refine Calls.mono HC.out ?_
  rintro e w2 ⟨tb, nm, r2, rfl, hcol, hl2, hp2, hb2⟩
  have hB2 := hB1.trans hb2
  have b2 := b1.but hb2 (by omega)
  have hz2 := b2.lt
  have hw2 := hb2.size
  clear HC HCl b1 hB1 hb2 hp1
  unfold exV
  simp only
  go_upto_region 10 with fail
  have hp3 := hp2.alloc (.cells #[.int .i64 2, .int .i64 0, .int .i64 0, .string ⟨#[]⟩, .string tb, .string nm, .slice none 0 0] 63)
  have hB3 := hB2.alloc (.cells #[.int .i64 2, .int .i64 0, .int .i64 0, .string ⟨#[]⟩, .string tb, .string nm, .slice none 0 0] 63)
  have b3 := b2.later (bal (Below.refl _ w2) (.cells #[.int .i64 2, .int .i64 0, .int .i64 0, .string ⟨#[]⟩, .string tb, .string nm, .slice none 0 0] 63))
  have e3 := Be.new w2 2 (0, 0, ⟨#[]⟩, tb, nm) (.slice none 0 0)
  simp only at e3
  clear hp2 hB2 b2
  generalize w2.alloc (.cells #[.int .i64 2, .int .i64 0, .int .i64 0, .string ⟨#[]⟩, .string tb, .string nm, .slice none 0 0] 63) = w3 at *
  generalize w2.heap.size = q at *
  have hz3 := b3.lt
  have hq3 := e3.lt
  by_cases h4 : k < 4
  · have g4 : decide ((k : Int) < 4) = true := by simp; omega
    have hx : Ex (fun b => w.heap.size + 1 ≤ b) w3 (tCol tb nm) (exV ((2 : Nat) : Int) (0, 0, ⟨#[]⟩, tb, nm) (.slice none 0 0)) := Ex.leaf 0 2 _
    have T : Hid (TePl g r w (Pl C (n + 1) 2) (.returned (exV 2 (0, 0, ⟨#[]⟩, tb, nm) (.slice none 0 0))) (set7 w3 w.heap.size 2 (0, 0, ⟨#[]⟩, tb, nm) (.slice none 0 0))) := hid (TePl.fin hgl (pl_s (.inr rfl) (.inl ⟨tb, nm, rfl, hcol⟩)) (hl1.on hl2) hp3 hB3 hx)
    obtain ⟨k0, k1, k2, k3, k4, k5, k6⟩ := e3.cells
    obtain ⟨d0, d1, d2, d3, d4, d5, d6⟩ := b3.cells
    obtain ⟨f0, f1, f2, f3, f4, f5, f6⟩ := b3.free
    clear hx e3 b3 hp3 hB3
    unfold exV at T
    simp only [nilP] at T k0 k1 k2 k3 k4 k5 k6 d0 d1 d2 d3 d4 d5 d6
    go_wp2
    refine bodyPost_ret (v := .agg #[.int .i64 2, .int .i64 0, .int .i64 0, .string ⟨#[]⟩, .string tb, .string nm, .slice none 0 0]) (by simp [results, Tryz.results22, go_sem, d0, d1, d2, d3, d4, d5, d6]) rfl ?_
    exact T.out
  · have g4 : decide ((k : Int) < 4) = false := by simp; omega
    clear e3 hq3 hcol
    have HV : Hid _ := hid (value_any hp3 2 (.inr rfl))
    clear hp3
    go_wp2_with fail
    refine Calls.mono HV.out ?_
    rintro e w4 ⟨i4, s4, r4, rfl, hva, hl4, hp4, hb4⟩
    have hB4 := hB3.trans hb4
    have b4 := b3.but hb4 (by omega)
    have HL : Hid _ := hid (lit_any 2 i4 s4 w4)
    clear HV hB3 b3 hb4
    go_wp2_with fail
    refine Calls.mono HL.out ?_
    rintro e w5 ⟨rfl, hb5⟩
    have hB5 := hB4.trans (But.of hb5)
    have b5 := b4.later hb5
    have hp5 := hp4.later hb5
    have hx : Ex (fun b => w.heap.size + 1 ≤ b) w5 (.node 0 1 (2, i4, s4, ⟨#[]⟩, ⟨#[]⟩) .nil .nil) (exV ((1 : Nat) : Int) (2, i4, s4, ⟨#[]⟩, ⟨#[]⟩) (.slice none 0 0)) := Ex.leaf 0 1 _
    have T : Hid (TePl g r w (Pl C (n + 1) 2) (.returned (exV 1 (2, i4, s4, ⟨#[]⟩, ⟨#[]⟩) (.slice none 0 0))) (set7 w5 w.heap.size 1 (2, i4, s4, ⟨#[]⟩, ⟨#[]⟩) (.slice none 0 0))) := hid (TePl.fin hgl (pl_s (.inr rfl) (.inr ⟨i4, s4, rfl, hva⟩)) (hl1.on (by omega)) hp5 hB5 hx)
    obtain ⟨d0, d1, d2, d3, d4, d5, d6⟩ := b5.cells
    obtain ⟨f0, f1, f2, f3, f4, f5, f6⟩ := b5.free
    have hz5 := b5.lt
    clear hx b5 hp4 hp5 hB4 hB5 HL b4 hb5
    unfold exV at T ⊢
    simp only [nilP] at T d0 d1 d2 d3 d4 d5 d6 ⊢
    go_wp2
    refine bodyPost_ret (v := .agg #[.int .i64 1, .int .i64 2, .int .i64 i4, .string s4, .string ⟨#[]⟩, .string ⟨#[]⟩, .slice none 0 0]) (by simp [results, Tryz.results22, go_sem, d0, d1, d2, d3, d4, d5, d6]) rfl ?_
    exact T.out

set_option maxRecDepth 100000 in
set_option maxHeartbeats 8000000 in
theorem play_int0 {g r : Nat} {w : World} {C : Cl2} {a : Option Addr} {c : Nat} {a2 : Option Addr} {c2 : Nat} (deep : Nat) (h : Pk w g r) (hC : Cols w g C a c a2 c2) (hd : deep + 0 = 5) :
    Calls Tryz.prog 22 #[.pointer (some ⟨g, 0, none⟩), .slice a C.length c, .slice a2 C.length c2, .int .i64 1, .int .i64 (deep : Int)] w (TePl g r w (Pl C 0 1)) := by
  have hgl := h.lt
  have b0 : Be (w.alloc zE2) w.heap.size 0 nilP (.slice none 0 0) := Be.new w 0 nilP (.slice none 0 0)
  have HN : Hid _ := hid (num_any (h.alloc zE2) 8 (by decide) (by decide))
  have HCl : Hid (∀ w1 r1, But g w w1 → Pk w1 g r1 → _) := hid fun w1 r1 hb hp => col_any hp (hC.but hb).its (hC.but hb).kds hC.few 1 (hC.has (.inl rfl))
  have hB0 : But g w (w.alloc zE2) := (But.refl g w).alloc _
  have hd4 : deep ≤ 5 := by omega
  clear h hC
  go_enter Tryz.func22, Tryz.ntmps22
  go_wp2_with fail
  refine Calls.mono HN.out ?_
  rintro e w1 ⟨k, r1, rfl, hk, hl1, hp1, hb1⟩
  have hB1 := hB0.trans hb1
  have b1 := b0.but hb1 (by omega)
  clear HN b0 hB0 hb1
  have HC : Hid _ := hid (HCl.out w1 r1 hB1 hp1)
  have hz1 := b1.lt
  go_wp2_with fail
  refine Calls.mono HC.out ?_
  rintro e w2 ⟨tb, nm, r2, rfl, hcol, hl2, hp2, hb2⟩
  have hB2 := hB1.trans hb2
  have b2 := b1.but hb2 (by omega)
  have hz2 := b2.lt
  have hw2 := hb2.size
  clear HC HCl b1 hB1 hb2 hp1
  unfold exV
  simp only
  go_upto_region 10 with fail
  have hp3 := hp2.alloc (.cells #[.int .i64 2, .int .i64 0, .int .i64 0, .string ⟨#[]⟩, .string tb, .string nm, .slice none 0 0] 63)
  have hB3 := hB2.alloc (.cells #[.int .i64 2, .int .i64 0, .int .i64 0, .string ⟨#[]⟩, .string tb, .string nm, .slice none 0 0] 63)
  have b3 := b2.later (bal (Below.refl _ w2) (.cells #[.int .i64 2, .int .i64 0, .int .i64 0, .string ⟨#[]⟩, .string tb, .string nm, .slice none 0 0] 63))
  have e3 := Be.new w2 2 (0, 0, ⟨#[]⟩, tb, nm) (.slice none 0 0)
  simp only at e3
  clear hp2 hB2 b2
  generalize w2.alloc (.cells #[.int .i64 2, .int .i64 0, .int .i64 0, .string ⟨#[]⟩, .string tb, .string nm, .slice none 0 0] 63) = w3 at *
  generalize w2.heap.size = q at *
  have hz3 := b3.lt
  have hq3 := e3.lt
  by_cases h4 : k < 4
  · have g4 : decide ((k : Int) < 4) = true := by simp; omega
    have hx : Ex (fun b => w.heap.size + 1 ≤ b) w3 (tCol tb nm) (exV ((2 : Nat) : Int) (0, 0, ⟨#[]⟩, tb, nm) (.slice none 0 0)) := Ex.leaf 0 2 _
    have T : Hid (TePl g r w (Pl C 0 1) (.returned (exV 2 (0, 0, ⟨#[]⟩, tb, nm) (.slice none 0 0))) (set7 w3 w.heap.size 2 (0, 0, ⟨#[]⟩, tb, nm) (.slice none 0 0))) := hid (TePl.fin hgl (pl_z (.inl rfl) (.inl ⟨tb, nm, rfl, hcol⟩)) (hl1.on hl2) hp3 hB3 hx)
    obtain ⟨k0, k1, k2, k3, k4, k5, k6⟩ := e3.cells
    obtain ⟨d0, d1, d2, d3, d4, d5, d6⟩ := b3.cells
    obtain ⟨f0, f1, f2, f3, f4, f5, f6⟩ := b3.free
    clear hx e3 b3 hp3 hB3
    unfold exV at T
    simp only [nilP] at T k0 k1 k2 k3 k4 k5 k6 d0 d1 d2 d3 d4 d5 d6
    go_wp2
    refine bodyPost_ret (v := .agg #[.int .i64 2, .int .i64 0, .int .i64 0, .string ⟨#[]⟩, .string tb, .string nm, .slice none 0 0]) (by simp [results, Tryz.results22, go_sem, d0, d1, d2, d3, d4, d5, d6]) rfl ?_
    exact T.out
  · have g4 : decide ((k : Int) < 4) = false := by simp; omega
    clear e3 hq3 hcol
    by_cases h3 : 3 < deep
    · have g3 : decide ((3 : Int) < (deep : Int)) = true := by simp; omega
      have HV : Hid _ := hid (value_any hp3 1 (.inl rfl))
      clear hp3
      go_wp2_with fail
      refine Calls.mono HV.out ?_
      rintro e w4 ⟨i4, s4, r4, rfl, hva, hl4, hp4, hb4⟩
      have hB4 := hB3.trans hb4
      have b4 := b3.but hb4 (by omega)
      have HL : Hid _ := hid (lit_any 1 i4 s4 w4)
      clear HV hB3 b3 hb4
      go_wp2_with fail
      refine Calls.mono HL.out ?_
      rintro e w5 ⟨rfl, hb5⟩
      have hB5 := hB4.trans (But.of hb5)
      have b5 := b4.later hb5
      have hp5 := hp4.later hb5
      have hx : Ex (fun b => w.heap.size + 1 ≤ b) w5 (.node 0 1 (1, i4, s4, ⟨#[]⟩, ⟨#[]⟩) .nil .nil) (exV ((1 : Nat) : Int) (1, i4, s4, ⟨#[]⟩, ⟨#[]⟩) (.slice none 0 0)) := Ex.leaf 0 1 _
      have T : Hid (TePl g r w (Pl C 0 1) (.returned (exV 1 (1, i4, s4, ⟨#[]⟩, ⟨#[]⟩) (.slice none 0 0))) (set7 w5 w.heap.size 1 (1, i4, s4, ⟨#[]⟩, ⟨#[]⟩) (.slice none 0 0))) := hid (TePl.fin hgl (pl_z (.inl rfl) (.inr ⟨i4, s4, rfl, hva⟩)) (hl1.on (by omega)) hp5 hB5 hx)
      obtain ⟨d0, d1, d2, d3, d4, d5, d6⟩ := b5.cells
      obtain ⟨f0, f1, f2, f3, f4, f5, f6⟩ := b5.free
      have hz5 := b5.lt
      clear hx b5 hp4 hp5 hB4 hB5 HL b4 hb5
      unfold exV at T ⊢
      simp only [nilP] at T d0 d1 d2 d3 d4 d5 d6 ⊢
      go_wp2
      refine bodyPost_ret (v := .agg #[.int .i64 1, .int .i64 1, .int .i64 i4, .string s4, .string ⟨#[]⟩, .string ⟨#[]⟩, .slice none 0 0]) (by simp [results, Tryz.results22, go_sem, d0, d1, d2, d3, d4, d5, d6]) rfl ?_
      exact T.out
    · exact absurd hd (by omega)

set_option maxRecDepth 100000 in
set_option maxHeartbeats 8000000 in
theorem play_int {n : Nat} (ih : PlayOK n) {g r : Nat} {w : World} {C : Cl2} {a : Option Addr} {c : Nat} {a2 : Option Addr} {c2 : Nat} (deep : Nat) (h : Pk w g r) (hC : Cols w g C a c a2 c2) (hd : deep + (n + 1) = 5) :
    Calls Tryz.prog 22 #[.pointer (some ⟨g, 0, none⟩), .slice a C.length c, .slice a2 C.length c2, .int .i64 1, .int .i64 (deep : Int)] w (TePl g r w (Pl C (n + 1) 1)) := by
  have hgl := h.lt
  have b0 : Be (w.alloc zE2) w.heap.size 0 nilP (.slice none 0 0) := Be.new w 0 nilP (.slice none 0 0)
  have HN : Hid _ := hid (num_any (h.alloc zE2) 8 (by decide) (by decide))
  have HI : Hid (∀ kind w1 r1, But g w w1 → Pk w1 g r1 → (kind = 1 ∨ kind = 2 ∨ (kind = 3 ∧ 0 < n)) → Calls Tryz.prog 22 #[.pointer (some ⟨g, 0, none⟩), .slice a C.length c, .slice a2 C.length c2, .int .i64 kind, .int .i64 ((deep : Int) + 1)] w1 (TePl g r1 w1 (Pl C n kind))) := hid fun kind w1 r1 hb hp hk => by
    have := ih kind (deep + 1) hp (hC.but hb) hk (by omega)
    rwa [show (((deep + 1 : Nat)) : Int) = (deep : Int) + 1 from by omega] at this
  have HCl : Hid (∀ w1 r1, But g w w1 → Pk w1 g r1 → _) := hid fun w1 r1 hb hp => col_any hp (hC.but hb).its (hC.but hb).kds hC.few 1 (hC.has (.inl rfl))
  have hB0 : But g w (w.alloc zE2) := (But.refl g w).alloc _
  have hd4 : deep ≤ 5 := by omega
  clear h hC ih
  go_enter Tryz.func22, Tryz.ntmps22
  go_wp2_with fail
  refine Calls.mono HN.out ?_
  rintro e w1 ⟨k, r1, rfl, hk, hl1, hp1, hb1⟩
  have hB1 := hB0.trans hb1
  have b1 := b0.but hb1 (by omega)
  clear HN b0 hB0 hb1
  have HC : Hid _ := hid (HCl.out w1 r1 hB1 hp1)
  have hz1 := b1.lt
  go_wp2_with fail
  refine Calls.mono HC.out ?_
  rintro e w2 ⟨tb, nm, r2, rfl, hcol, hl2, hp2, hb2⟩
  have hB2 := hB1.trans hb2
  have b2 := b1.but hb2 (by omega)
  have hz2 := b2.lt
  have hw2 := hb2.size
  clear HC HCl b1 hB1 hb2 hp1
  unfold exV
  simp only
  go_upto_region 10 with fail
  have hp3 := hp2.alloc (.cells #[.int .i64 2, .int .i64 0, .int .i64 0, .string ⟨#[]⟩, .string tb, .string nm, .slice none 0 0] 63)
  have hB3 := hB2.alloc (.cells #[.int .i64 2, .int .i64 0, .int .i64 0, .string ⟨#[]⟩, .string tb, .string nm, .slice none 0 0] 63)
  have b3 := b2.later (bal (Below.refl _ w2) (.cells #[.int .i64 2, .int .i64 0, .int .i64 0, .string ⟨#[]⟩, .string tb, .string nm, .slice none 0 0] 63))
  have e3 := Be.new w2 2 (0, 0, ⟨#[]⟩, tb, nm) (.slice none 0 0)
  simp only at e3
  clear hp2 hB2 b2
  generalize w2.alloc (.cells #[.int .i64 2, .int .i64 0, .int .i64 0, .string ⟨#[]⟩, .string tb, .string nm, .slice none 0 0] 63) = w3 at *
  generalize w2.heap.size = q at *
  have hz3 := b3.lt
  have hq3 := e3.lt
  by_cases h4 : k < 4
  · have g4 : decide ((k : Int) < 4) = true := by simp; omega
    have hx : Ex (fun b => w.heap.size + 1 ≤ b) w3 (tCol tb nm) (exV ((2 : Nat) : Int) (0, 0, ⟨#[]⟩, tb, nm) (.slice none 0 0)) := Ex.leaf 0 2 _
    have T : Hid (TePl g r w (Pl C (n + 1) 1) (.returned (exV 2 (0, 0, ⟨#[]⟩, tb, nm) (.slice none 0 0))) (set7 w3 w.heap.size 2 (0, 0, ⟨#[]⟩, tb, nm) (.slice none 0 0))) := hid (TePl.fin hgl (pl_s (.inl rfl) (.inl ⟨tb, nm, rfl, hcol⟩)) (hl1.on hl2) hp3 hB3 hx)
    obtain ⟨k0, k1, k2, k3, k4, k5, k6⟩ := e3.cells
    obtain ⟨d0, d1, d2, d3, d4, d5, d6⟩ := b3.cells
    obtain ⟨f0, f1, f2, f3, f4, f5, f6⟩ := b3.free
    clear hx e3 b3 hp3 hB3 HI
    unfold exV at T
    simp only [nilP] at T k0 k1 k2 k3 k4 k5 k6 d0 d1 d2 d3 d4 d5 d6
    go_wp2
    refine bodyPost_ret (v := .agg #[.int .i64 2, .int .i64 0, .int .i64 0, .string ⟨#[]⟩, .string tb, .string nm, .slice none 0 0]) (by simp [results, Tryz.results22, go_sem, d0, d1, d2, d3, d4, d5, d6]) rfl ?_
    exact T.out
  · have g4 : decide ((k : Int) < 4) = false := by simp; omega
    clear e3 hq3 hcol
    by_cases h3 : 3 < deep
    · have g3 : decide ((3 : Int) < (deep : Int)) = true := by simp; omega
      clear HI
      have HV : Hid _ := hid (value_any hp3 1 (.inl rfl))
      clear hp3
      go_wp2_with fail
      refine Calls.mono HV.out ?_
      rintro e w4 ⟨i4, s4, r4, rfl, hva, hl4, hp4, hb4⟩
      have hB4 := hB3.trans hb4
      have b4 := b3.but hb4 (by omega)
      have HL : Hid _ := hid (lit_any 1 i4 s4 w4)
      clear HV hB3 b3 hb4
      go_wp2_with fail
      refine Calls.mono HL.out ?_
      rintro e w5 ⟨rfl, hb5⟩
      have hB5 := hB4.trans (But.of hb5)
      have b5 := b4.later hb5
      have hp5 := hp4.later hb5
      have hx : Ex (fun b => w.heap.size + 1 ≤ b) w5 (.node 0 1 (1, i4, s4, ⟨#[]⟩, ⟨#[]⟩) .nil .nil) (exV ((1 : Nat) : Int) (1, i4, s4, ⟨#[]⟩, ⟨#[]⟩) (.slice none 0 0)) := Ex.leaf 0 1 _
      have T : Hid (TePl g r w (Pl C (n + 1) 1) (.returned (exV 1 (1, i4, s4, ⟨#[]⟩, ⟨#[]⟩) (.slice none 0 0))) (set7 w5 w.heap.size 1 (1, i4, s4, ⟨#[]⟩, ⟨#[]⟩) (.slice none 0 0))) := hid (TePl.fin hgl (pl_s (.inl rfl) (.inr ⟨i4, s4, rfl, hva⟩)) (hl1.on (by omega)) hp5 hB5 hx)
      obtain ⟨d0, d1, d2, d3, d4, d5, d6⟩ := b5.cells
      obtain ⟨f0, f1, f2, f3, f4, f5, f6⟩ := b5.free
      have hz5 := b5.lt
      clear hx b5 hp4 hp5 hB4 hB5 HL b4 hb5
      unfold exV at T ⊢
      simp only [nilP] at T d0 d1 d2 d3 d4 d5 d6 ⊢
      go_wp2
      refine bodyPost_ret (v := .agg #[.int .i64 1, .int .i64 1, .int .i64 i4, .string s4, .string ⟨#[]⟩, .string ⟨#[]⟩, .slice none 0 0]) (by simp [results, Tryz.results22, go_sem, d0, d1, d2, d3, d4, d5, d6]) rfl ?_
      exact T.out
    · have g3 : decide ((3 : Int) < (deep : Int)) = false := by simp; omega
      by_cases h6 : k < 6
      · have g6 : decide ((k : Int) < 6) = true := by simp; omega
        clear HI
        have HV : Hid _ := hid (value_any hp3 1 (.inl rfl))
        clear hp3
        go_wp2_with fail
        refine Calls.mono HV.out ?_
        rintro e w4 ⟨i4, s4, r4, rfl, hva, hl4, hp4, hb4⟩
        have hB4 := hB3.trans hb4
        have b4 := b3.but hb4 (by omega)
        have HL : Hid _ := hid (lit_any 1 i4 s4 w4)
        clear HV hB3 b3 hb4
        go_wp2_with fail
        refine Calls.mono HL.out ?_
        rintro e w5 ⟨rfl, hb5⟩
        have hB5 := hB4.trans (But.of hb5)
        have b5 := b4.later hb5
        have hp5 := hp4.later hb5
        have hx : Ex (fun b => w.heap.size + 1 ≤ b) w5 (.node 0 1 (1, i4, s4, ⟨#[]⟩, ⟨#[]⟩) .nil .nil) (exV ((1 : Nat) : Int) (1, i4, s4, ⟨#[]⟩, ⟨#[]⟩) (.slice none 0 0)) := Ex.leaf 0 1 _
        have T : Hid (TePl g r w (Pl C (n + 1) 1) (.returned (exV 1 (1, i4, s4, ⟨#[]⟩, ⟨#[]⟩) (.slice none 0 0))) (set7 w5 w.heap.size 1 (1, i4, s4, ⟨#[]⟩, ⟨#[]⟩) (.slice none 0 0))) := hid (TePl.fin hgl (pl_s (.inl rfl) (.inr ⟨i4, s4, rfl, hva⟩)) (hl1.on (by omega)) hp5 hB5 hx)
        obtain ⟨d0, d1, d2, d3, d4, d5, d6⟩ := b5.cells
        obtain ⟨f0, f1, f2, f3, f4, f5, f6⟩ := b5.free
        have hz5 := b5.lt
        clear hx b5 hp4 hp5 hB4 hB5 HL b4 hb5
        unfold exV at T ⊢
        simp only [nilP] at T d0 d1 d2 d3 d4 d5 d6 ⊢
        go_wp2
        refine bodyPost_ret (v := .agg #[.int .i64 1, .int .i64 1, .int .i64 i4, .string s4, .string ⟨#[]⟩, .string ⟨#[]⟩, .slice none 0 0]) (by simp [results, Tryz.results22, go_sem, d0, d1, d2, d3, d4, d5, d6]) rfl ?_
        exact T.out
      · have g6 : decide ((k : Int) < 6) = false := by simp; omega
        have hn0 : 0 < n := by omega
        by_cases h7 : k = 6
        · subst h7
          have HC1 : Hid _ := hid (HI.out 1 w3 r2 hB3 hp3 (.inl rfl))
          have hs3 := hB3.size
          have hz33 := b3.lt
          go_wp2_with fail
          refine Calls.mono HC1.out ?_
          rintro e w4 ⟨o1, p1, a1, n1, c1, t1, r4, rfl, hX1, hl4, hp4, hb4, hx1⟩
          have hB4 := hB3.trans hb4
          have b4 := b3.but hb4 (by omega)
          have hx1' : Ex (fun b => w.heap.size + 1 ≤ b) w4 t1 (exV o1 p1 (.slice a1 n1 c1)) := hx1.mono fun b hb _ => by omega
          have hb6 := bal (Below.refl _ w4) (.cells #[.int .i64 o1, .int .i64 p1.1, .int .i64 p1.2.1, .string p1.2.2.1, .string p1.2.2.2.1, .string p1.2.2.2.2, .slice a1 n1 c1] 63)
          have ce := (Be.new w4 o1 p1 (.slice a1 n1 c1)).cells
          have hB6 := hB4.trans (But.of hb6)
          have b6 := b4.later hb6
          have hp6 := hp4.later hb6
          have hz4 := b4.lt
          have hx : Ex (fun b => w.heap.size + 1 ≤ b) _ (tOne 3 t1) (exV ((3 : Nat) : Int) nilP (.slice (some ⟨w4.heap.size, 0, none⟩) 1 1)) := Ex.one (by omega) ce (hx1'.later hb6)
          have T : Hid (TePl g r w (Pl C (n + 1) 1) (.returned (exV 3 nilP (.slice (some ⟨w4.heap.size, 0, none⟩) 1 1))) (set7 _ w.heap.size 3 nilP (.slice (some ⟨w4.heap.size, 0, none⟩) 1 1))) := hid (TePl.fin hgl (.inr (.inl ⟨rfl, .inl ⟨t1, rfl, hX1⟩⟩)) (hl1.on (by have := hl4.1; omega)) hp6 hB6 hx)
          rw [set7_past hz4] at T
          obtain ⟨d0, d1, d2, d3, d4, d5, d6⟩ := b4.cells
          obtain ⟨f0, f1, f2, f3, f4, f5, f6⟩ := b4.free
          have hz6 := b6.lt
          clear HC1 HI hx hx1 hx1' hp4 hp6 hB4 hB6 b4 b6 ce hb6 hb4 hX1 hp3 hB3 b3
          unfold exV at T ⊢
          simp only [nilP] at T d0 d1 d2 d3 d4 d5 d6 ⊢
          go_wp2
          refine bodyPost_ret (v := .agg #[.int .i64 3, .int .i64 0, .int .i64 0, .string ⟨#[]⟩, .string ⟨#[]⟩, .string ⟨#[]⟩, .slice (some ⟨w4.heap.size, 0, none⟩) 1 1]) (by simp [results, Tryz.results22, go_sem, hz4, d0, d1, d2, d3, d4, d5, d6]) rfl ?_
          exact T.out
        · have g7 : ((k : Int) == 6) = false := by simp; omega
          have hp2 := hp3
          have hB2 := hB3
          have b2 := b3
          clear hp3 hB3 b3
          have HN3 : Hid _ := hid (num_any hp2 3 (by decide) (by decide))
          have hz2 := b2.lt
          go_wp2_with fail
          refine Calls.mono HN3.out ?_
          rintro e w8 ⟨k3, r3, rfl, hk3, hl3, hp3, hb3⟩
          have hB3 := hB2.trans hb3
          have b3 := b2.but hb3 (by omega)
          have HC1 : Hid _ := hid (HI.out 1 w8 r3 hB3 hp3 (.inl rfl))
          clear HN3 b2 hB2 hb3 hp3
          have hs3 := hB3.size
          go_wp2_with fail
          refine Calls.mono HC1.out ?_
          rintro e w4 ⟨o1, p1, a1, n1, c1, t1, r4, rfl, hX1, hl4, hp4, hb4, hx1⟩
          have hB4 := hB3.trans hb4
          have b4 := b3.but hb4 (by omega)
          have hx1' : Ex (fun b => w.heap.size + 1 ≤ b) w4 t1 (exV o1 p1 (.slice a1 n1 c1)) := hx1.mono fun b hb _ => by have := b3.lt; omega
          have HC2 : Hid _ := hid (HI.out 1 w4 r4 hB4 hp4 (.inl rfl))
          have hs4 := hb4.size
          have hz4 := b3.lt
          clear HC1 b3 hB3 hb4 hp4 hx1
          go_wp2_with fail
          refine Calls.mono HC2.out ?_
          rintro e w5 ⟨o2, p2, a3, n2, c3, t2, r5, rfl, hX2, hl5, hp5, hb5, hx2⟩
          have hB5 := hB4.trans hb5
          have b5 := b4.but hb5 (by omega)
          have hx1 := hx1'.but hb5 (by omega)
          have hx2' : Ex (fun b => w.heap.size + 1 ≤ b) w5 t2 (exV o2 p2 (.slice a3 n2 c3)) := hx2.mono fun b hb _ => by omega
          have HT : Hid _ := hid (playTwo_any (5 + (k3 : Int)) o1 p1 (.slice a1 n1 c1) o2 p2 (.slice a3 n2 c3) w5)
          have hz5 := b4.lt
          have hs5 := hb5.size
          clear HC2 b4 hB4 hb5 hx2 hx1' HI
          go_wp2_with fail
          refine Calls.mono HT.out ?_
          rintro e w6 ⟨b, rfl, hbb, hb6, ce1, ce2⟩
          have hB6 := hB5.trans (But.of hb6)
          have b6 := b5.later hb6
          have hp6 := hp5.later hb6
          have hx : Ex (fun b => w.heap.size + 1 ≤ b) w6 (tTwo (k3 + 5) t1 t2) (exV ((k3 + 5 : Nat) : Int) nilP (.slice (some ⟨b, 0, none⟩) 2 2)) := Ex.two (by omega) ce1 ce2 (hx1.later hb6) (hx2'.later hb6)
          rw [show ((k3 + 5 : Nat) : Int) = 5 + (k3 : Int) from by omega] at hx
          have T : Hid (TePl g r w (Pl C (n + 1) 1) (.returned (exV (5 + (k3 : Int)) nilP (.slice (some ⟨b, 0, none⟩) 2 2))) (set7 w6 w.heap.size (5 + (k3 : Int)) nilP (.slice (some ⟨b, 0, none⟩) 2 2))) := hid (TePl.fin hgl (.inr (.inl ⟨rfl, .inr ⟨k3, t1, t2, hk3, rfl, hX1, hX2⟩⟩)) (hl1.on (by have := hl2; have := hl3.1; have := hl4.1; have := hl5.1; omega)) hp6 hB6 hx)
          obtain ⟨d0, d1, d2, d3, d4, d5, d6⟩ := b6.cells
          obtain ⟨f0, f1, f2, f3, f4, f5, f6⟩ := b6.free
          have hz6 := b6.lt
          clear HT hx hx1 hx2' hp5 hp6 hB5 hB6 b5 b6 ce1 ce2 hb6 hX1 hX2
          unfold exV at T ⊢
          simp only [nilP] at T d0 d1 d2 d3 d4 d5 d6 ⊢
          go_wp2
          refine bodyPost_ret (v := .agg #[.int .i64 (5 + (k3 : Int)), .int .i64 0, .int .i64 0, .string ⟨#[]⟩, .string ⟨#[]⟩, .string ⟨#[]⟩, .slice (some ⟨b, 0, none⟩) 2 2]) (by simp [results, Tryz.results22, go_sem, d0, d1, d2, d3, d4, d5, d6]) rfl ?_
          exact T.out

theorem play_any : ∀ n, PlayOK n
  | 0 => fun kind deep h hC hk hd => by
    rcases hk with rfl | rfl | ⟨_, h0⟩
    · exact play_int0 deep h hC hd
    · exact play_text0 deep h hC hd
    · exact absurd h0 (by omega)
  | n + 1 => fun kind deep h hC hk hd => by
    rcases hk with rfl | rfl | ⟨rfl, _⟩
    · exact play_int (play_any n) deep h hC hd
    · exact play_text deep h hC hd
    · exact play_bool (play_any n) deep h hC hd

end Go.Proofs.YtnlaaejdianfjaaGreat
