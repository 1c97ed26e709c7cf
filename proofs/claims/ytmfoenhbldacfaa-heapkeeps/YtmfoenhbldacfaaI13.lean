/- A page with room. -/
import Derived.Test.YtmfoenhbldacfaaI12
namespace Go.Proofs.Ytmfoenhbldacfaa
open Go.RowKit
set_option linter.unusedVariables false
set_option linter.unusedSimpArgs false

/-- What roomy tells. -/
structure Rmy (B : Nat) (w : World) (H : Hs) (k : Nat) (w' : World) (n : Int) (H' : Hs) (g : Nat) (R : Rc) : Prop where
  hi : HI B w' H'
  hp : HP H' (some n)
  ft : Ft B noX w w'
  mem : (n, (g, R)) ∈ H'.G
  room : (k : Int) ≤ gapR R
  hb : H'.hb = H.hb
  pl : H'.P = H.P
  pm : H'.pm = H.pm
  nx : H'.nx ≤ H.nx + 1
  len : H'.G.length ≤ H.G.length + 1
  oth : ∀ m, m ≠ n → lk H'.G m = lk H.G m
  old : lk H.G n = some (g, R) ∨ (lk H.G n = none ∧ R = [])
theorem rmy_new {B : Nat} {w w' : World} {H : Hs} {k : Nat} (hk : k ≤ 200) (hp : HP H none) (kg : (ks H.G).Nodup) {b g : Nat} (hi : HI B w' { H with nx := H.nx + 1, gm := some b, G := up H.G (H.nx : Int) (g, []) }) (ft : Ft B noX w w') :
    Rmy B w H k w' (H.nx : Int) { H with nx := H.nx + 1, gm := some b, G := up H.G (H.nx : Int) (g, []) } g [] := by
  have hn : (H.nx : Int) ∉ ks H.G := fun e => by
    obtain ⟨⟨g', R'⟩, e1⟩ := lk_key.1 e
    have := (hp.rng _ _ _ (lk_mem e1)).2
    omega
  have hm : ∀ m g' R', (m, (g', R')) ∈ up H.G (H.nx : Int) (g, []) ↔ (m, (g', R')) = ((H.nx : Int), (g, [])) ∨ ((m, (g', R')) ∈ H.G ∧ m ≠ H.nx) := fun m g' R' => mem_up kg
  refine ⟨hi, ⟨fun m g' R' e => ?_, fun m g' R' e => ?_, fun m g' R' e hne => ?_, hp.srt, fun r m e => ?_, fun m g' R' e hne hr => ?_⟩, ft, (hm _ _ _).2 (.inl rfl), ?_, rfl, rfl, rfl, Nat.le_refl _, ?_, fun m hne => ?_, .inr ⟨lk_none.2 hn, rfl⟩⟩
  · rcases (hm _ _ _).1 e with e | ⟨e, _⟩
    · cases e; show (0 : Int) ≤ (H.nx : Int) ∧ (H.nx : Int) < ((H.nx + 1 : Nat) : Int); omega
    · have := hp.rng _ _ _ e
      show (0 : Int) ≤ m ∧ m < ((H.nx + 1 : Nat) : Int)
      omega
  · rcases (hm _ _ _).1 e with e | ⟨e, _⟩
    · cases e; exact .inl rfl
    · exact hp.tm _ _ _ e
  · rcases (hm _ _ _).1 e with e | ⟨e, _⟩
    · cases e; exact absurd rfl hne
    · exact hp.ne _ _ _ e (by simp)
  · obtain ⟨g', R', e1, e2⟩ := hp.fre r m e
    exact ⟨g', R', (hm _ _ _).2 (.inr ⟨e1, fun e3 => hn (e3 ▸ mem_key e1)⟩), e2⟩
  · rcases (hm _ _ _).1 e with e | ⟨e, _⟩
    · cases e; exact absurd rfl hne
    · exact hp.fre' _ _ _ e (by simp) hr
  · have : gapR [] = 244 := by decide
    omega
  · show (up H.G (H.nx : Int) (g, [])).length ≤ _
    rw [len_up, if_neg hn]; exact Nat.le_refl _
  · show lk (up H.G (H.nx : Int) (g, [])) m = _
    rw [lk_up, if_neg hne]
theorem rmy_old {B : Nat} {w w' : World} {H : Hs} {k : Nat} (h : HI B w H) (hp : HP H none) (hb : Below w.heap.size w w') (hlt : lb H.F ((k : Int), 0) < H.F.length) :
    ∃ g R, Rmy B w H k w' (H.F[lb H.F ((k : Int), 0)]).2 H g R := by
  obtain ⟨⟨r, n⟩, hx⟩ : ∃ x, H.F[lb H.F ((k : Int), 0)] = x := ⟨_, rfl⟩
  have hge := lb_ge hlt hp.srt (Nat.le_refl _)
  rw [hx] at hge
  have hmem : (r, n) ∈ H.F := by rw [← hx]; exact List.getElem_mem _
  obtain ⟨g, R, h1, h2, h3⟩ := hp.fre r n hmem
  have h4 := (hp.rng _ _ _ h1).1
  have hr : (k : Int) ≤ r := by
    unfold glt at hge
    simp only at hge
    omega
  rw [hx]
  exact ⟨g, R, h.later hb, hp.exempt _, Ft.of hb, h1, by rw [← h2]; exact hr, rfl, rfl, rfl, Nat.le_succ _, Nat.le_succ _, fun _ _ => rfl, .inl (mem_lk h.kg h1)⟩

set_option maxRecDepth 100000 in
set_option maxHeartbeats 4000000 in
theorem roomy_any {B : Nat} {w : World} {H : Hs} (h : HI B w H) (hp : HP H none) {k : Nat} (hk : k ≤ 200) (hl : H.G.length ≤ 800) (hnx : H.nx ≤ 1000000) :
    Calls Try.prog 35 #[.pointer (some ⟨H.hb, 0, none⟩), .int .i64 (k : Int)] w fun e w' => ∃ n H' g R, e = .returned (.int .i64 n) ∧ Rmy B w H k w' n H' g R := by
  have hfew := hp.few h.kg
  obtain ⟨ao, c, hfv, hc1, hc2, hcells⟩ := h.fr.cells
  have HS : Hid (∀ w', Below w.heap.size w w' → _) := fun w' k' => search_any (w := w') (ao := ao) (n := H.F.length) (c := c) (by rw [← hfv]; exact h.fr.later k') hp.srt (by omega) (k : Int) 0
  have HC : Hid (∀ w', Below w.heap.size w w' → w'.cell? ⟨H.hb, 2, none⟩ = some (.slice ao H.F.length c) ∧ w'.cell? ⟨H.hb, 3, none⟩ = some (.int .i64 (H.nx : Int)) ∧ w'.frozen? ⟨H.hb, 3, none⟩ = false) := fun w' k => ⟨bcl k (by rw [← hfv]; exact h.cells.2.2.1), bcl k h.cells.2.2.2, (h.later k).frozen 3⟩
  have c2 := (HC.out w (Below.refl _ _)).1
  have hlb := lb_le H.F ((k : Int), 0)
  obtain ⟨I, hI⟩ : ∃ b, decide (inG H.F ((k : Int), 0)) = b := ⟨_, rfl⟩
  rw [hI] at HS
  by_cases hlt : lb H.F ((k : Int), 0) < H.F.length
  · have HO : Hid (∀ w', Below w.heap.size w w' → _) := fun w' hb => rmy_old (k := k) h hp hb hlt
    obtain ⟨g, rfl, hcc⟩ := hcells (by omega)
    have HE : Hid (∀ w', Below w.heap.size w w' → w'.cell? ⟨g, lb H.F ((k : Int), 0) * 2 + 1, none⟩ = some (.int .i64 (H.F[lb H.F ((k : Int), 0)]).2)) := fun w' hb => by
      obtain ⟨_, _, e', _, _, hx⟩ := (h.fr.later hb).cells
      rw [hfv] at e'
      cases e'
      obtain ⟨g', e, hy⟩ := hx (by omega)
      cases e
      exact (hy _ hlt).2
    clear h hp hcells hcc hfv
    generalize (H.F[lb H.F ((k : Int), 0)]).2 = n at *
    generalize lb H.F ((k : Int), 0) = b at *
    generalize H.F.length = N at *
    have g1 : decide ((b : Int) < (N : Int)) = true := by simpa using hlt
    have hbN : (b : Int) < (N : Int) := by omega
    go_enter Try.func35, Try.ntmps35
    go_wp2_with fail
    refine Calls.mono (HS.out _ (Below.refl _ _)) ?_
    rintro e w1 ⟨rfl, hb1⟩
    obtain ⟨a1, a2, a3⟩ := HC.out w1 hb1
    have a4 := HE.out w1 hb1
    have hO := HO.out w1 hb1
    clear HS HC HE HO c2
    go_wp2
    go_ret
    obtain ⟨g', R', hO⟩ := hO
    exact ⟨_, _, _, _, rfl, hO⟩
  · have HN : Hid (∀ w1, Below w.heap.size w w1 → HI B (w1.setCell ⟨H.hb, 3, none⟩ (.int .i64 ((H.nx + 1 : Nat) : Int))) { H with nx := H.nx + 1 } ∧ Ft B noX w (w1.setCell ⟨H.hb, 3, none⟩ (.int .i64 ((H.nx + 1 : Nat) : Int)))) := fun w1 hb => ⟨(h.later hb).next, (Ft.of hb).trans ((h.later hb).setc 3 _)⟩
    have hnk : (H.nx : Int) ∉ ks H.G := fun e => by
      obtain ⟨⟨g', R'⟩, e1⟩ := lk_key.1 e
      have := (hp.rng _ _ _ (lk_mem e1)).2
      omega
    have HK : Hid (∀ w2 w3 g Bt, HI B w2 { H with nx := H.nx + 1 } → Ft B noX w w2 → Below w2.heap.size w2 w3 → g = w2.heap.size → Pi w3 g Bt [] allP → Calls Try.prog 26 #[.pointer (some ⟨H.hb, 0, none⟩), .int .i64 (H.nx : Int), .pointer (some ⟨g, 0, none⟩)] w3 fun e w' => e = .returned (.tuple #[]) ∧ ∃ H', Rmy B w H k w' (H.nx : Int) H' g []) := fun w2 w3 g Bt k1 k2 k3 k4 k5 => by
      refine Calls.mono (keep_any (H := { H with nx := H.nx + 1 }) (k1.later k3) hnk (by rw [k4]; exact k1.bw) ⟨_, k5⟩ (fun m g' R' e => by
        obtain ⟨_, Bt', hP'⟩ := k1.pg m g' R' e
        have := hP'.pg.lt
        omega)) ?_
      rintro e w4 ⟨rfl, ⟨b, j1⟩, j2⟩
      exact ⟨rfl, _, rmy_new hk hp h.kg j1 (k2.trans ((Ft.of k3).trans j2))⟩
    have hcast : ((H.nx + 1 : Nat) : Int) = (H.nx : Int) + 1 := by omega
    rw [hcast] at HN
    clear h hp hcells hfv hcast
    generalize lb H.F ((k : Int), 0) = b at *
    generalize H.F.length = N at *
    have g1 : decide ((b : Int) < (N : Int)) = false := by simp; omega
    have hwr : IntKind.i64.wrap ((H.nx : Int) + 1) = (H.nx : Int) + 1 := by rw [IntKind.wrap_i64]; omega
    go_enter Try.func35, Try.ntmps35
    go_wp2_with fail
    refine Calls.mono (HS.out _ (Below.refl _ _)) ?_
    rintro e w1 ⟨rfl, hb1⟩
    obtain ⟨a1, a2, a3⟩ := HC.out w1 hb1
    obtain ⟨hN1, hN2⟩ := HN.out w1 hb1
    clear HS HC HN c2
    replace hN1 : Hid _ := hN1
    replace hN2 : Hid _ := hN2
    go_wp2_with fail
    refine Calls.mono (new_any _) ?_
    rintro e w3 ⟨rfl, hP, hb3⟩
    have HK3 := HK.out _ w3 _ _ hN1.out hN2.out hb3 rfl hP
    generalize (w1.setCell ⟨H.hb, 3, none⟩ (.int .i64 ((H.nx : Int) + 1))) = W at *
    generalize W.heap.size = q at *
    replace HK3 : Hid _ := HK3
    clear HK hN1 hN2 hP hb3
    go_wp2_with fail
    refine Calls.mono HK3.out ?_
    rintro e w4 ⟨rfl, H', hR⟩
    replace hR : Hid _ := hR
    clear HK3
    go_wp2
    go_ret
    exact ⟨_, _, _, _, rfl, hR.out⟩

end Go.Proofs.Ytmfoenhbldacfaa
