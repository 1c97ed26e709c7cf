/- The walk of ParseWords. -/
import Derived.Test.YtjlmcnbmhgabpabPw
namespace Go.Proofs.Ytjlmcnbmhgabpab
open Go.RowKit
set_option linter.unusedVariables false

def wsT : List ByteArray := [⟨#[115, 101, 108, 101, 99, 116]⟩, ⟨#[102, 114, 111, 109]⟩, ⟨#[119, 104, 101, 114, 101]⟩, ⟨#[97, 110, 100]⟩, ⟨#[111, 114]⟩, ⟨#[110, 111, 116]⟩, ⟨#[105, 110, 116]⟩, ⟨#[116, 101, 120, 116]⟩, ⟨#[114, 101, 102]⟩, ⟨#[118, 97, 108, 117, 101, 115]⟩, ⟨#[103, 114, 111, 117, 112]⟩, ⟨#[100, 101, 115, 99]⟩, ⟨#[115, 117, 109]⟩, ⟨#[99, 97, 108, 108]⟩, ⟨#[98, 101, 103, 105, 110]⟩]
def txT : List ByteArray := [⟨#[99, 114, 101, 97, 116, 101, 32, 116, 97, 98, 108, 101, 32]⟩, ⟨#[105, 110, 115, 101, 114, 116, 32, 105, 110, 116, 111, 32]⟩, ⟨#[117, 112, 100, 97, 116, 101, 32]⟩, ⟨#[100, 101, 108, 101, 116, 101, 32, 102, 114, 111, 109, 32]⟩, ⟨#[99, 97, 108, 108, 32]⟩, ⟨#[99, 114, 101, 97, 116, 101, 32, 118, 105, 101, 119, 32]⟩, ⟨#[115, 101, 108, 101, 99, 116, 32, 42, 32, 102, 114, 111, 109, 32]⟩, ⟨#[99, 114, 101, 97, 116, 101, 32, 105, 110, 100, 101, 120, 32, 111, 110, 32]⟩]
def nthB (l : List ByteArray) (r : Nat) : ByteArray := l[r]?.getD ⟨#[]⟩
def chkW1 (q r : Nat) : Bool := decide ((nthB txT q ++ nthB wsT r).size ≤ 400) && decide ((lxF 20 (nthB txT q ++ nthB wsT r) 0).2.2 ≠ 99) &&
  decide ((vd 20 (nthB txT q ++ nthB wsT r)).2 = (((nthB txT q).size : Int), 5))
def chkW2 (q : Nat) : Bool := decide ((nthB txT q ++ ⟨#[110, 97, 109, 101]⟩).size ≤ 400) && decide ((nthB txT q).size ≤ 100) && decide ((lxF 20 (nthB txT q ++ ⟨#[110, 97, 109, 101]⟩) 0).2.2 ≠ 99) &&
  (decide ((vd 20 (nthB txT q ++ ⟨#[110, 97, 109, 101]⟩)).2.2 = 0) || decide ((vd 20 (nthB txT q ++ ⟨#[110, 97, 109, 101]⟩)).2 = (((nthB txT q).size : Int) + 4, 5)))
theorem chkW1_ok : ∀ q, q < 8 → ∀ r, r < 15 → chkW1 q r = true := by decide +kernel
theorem chkW2_ok : ∀ q, q < 8 → chkW2 q = true := by decide +kernel
theorem words1 {q r : Nat} (hq : q < 8) (hr : r < 15) {X : Option Sf} {a f : Int} (h : PaR (nthB txT q ++ nthB wsT r) X a f) : a = ((nthB txT q).size : Int) ∧ f = 5 := by
  have hc := chkW1_ok q hq r hr
  unfold chkW1 at hc
  simp only [Bool.and_eq_true, decide_eq_true_eq] at hc
  have h2 := hc.2
  rw [vd_ok hc.1.1 hc.1.2 h] at h2
  cases h2
  exact ⟨rfl, rfl⟩
theorem words2 {q : Nat} (hq : q < 8) {X : Option Sf} {a f : Int} (h : PaR (nthB txT q ++ ⟨#[110, 97, 109, 101]⟩) X a f) : (nthB txT q).size ≤ 100 ∧ (f = 0 ∨ a = ((nthB txT q).size : Int) + 4 ∧ f = 5) := by
  have hc := chkW2_ok q hq
  unfold chkW2 at hc
  simp only [Bool.and_eq_true, Bool.or_eq_true, decide_eq_true_eq] at hc
  have h2 := hc.2
  rw [vd_ok hc.1.1.1 hc.1.2 h] at h2
  refine ⟨hc.1.1.2, ?_⟩
  rcases h2 with h2 | h2
  · exact .inl h2
  · cases h2; exact .inr ⟨rfl, rfl⟩
theorem bs_app2 (s t : ByteArray) : bs (s ++ t) = bs s ++ bs t := by
  show (s ++ t).data.toList = s.data.toList ++ t.data.toList
  rw [ByteArray.data_append, Array.toList_append]
theorem cell_str (w : World) (l : List ByteArray) (ty : TypeId) {r : Nat} (hr : r < l.length) : (w.alloc (.cells (l.map Value.string).toArray ty)).cell? ⟨w.heap.size, r, none⟩ = some (.string (nthB l r)) := by
  rw [cell_new, nthB, List.getElem?_toArray, List.getElem?_map, List.getElem?_eq_getElem hr]
  rfl
theorem sizes : (∀ q, q < 8 → (nthB txT q).size ≤ 100) ∧ (∀ r, r < 15 → (nthB wsT r).size ≤ 100) := by decide +kernel

set_option maxRecDepth 100000 in
set_option maxHeartbeats 4000000 in
theorem words_any (x0 x1 : UInt8) (w : World) : Calls Try.prog 3 #[.int .u8 (x0.toNat : Int), .int .u8 (x1.toNat : Int)] w fun e w' => e = .returned (.bool true) ∧ Below w.heap.size w w' := by
  have HB : Hid _ := hid (begun_any w)
  obtain ⟨r, hr, hr'⟩ : ∃ r : Nat, r < 15 ∧ x0.toNat % 15 = r := ⟨_, Nat.mod_lt _ (by decide), rfl⟩
  obtain ⟨q, hq, hq'⟩ : ∃ q : Nat, q < 8 ∧ x1.toNat % 8 = q := ⟨_, Nat.mod_lt _ (by decide), rfl⟩
  have hx0 : x0.toNat < 256 := x0.toNat_lt
  have hx1 : x1.toNat < 256 := x1.toNat_lt
  have sq := sizes.1 q hq
  have sr := sizes.2 r hr
  have g0 : (x0.toNat : Int) % 15 = (r : Int) := by omega
  have g1 : (x1.toNat : Int) % 8 = (q : Int) := by omega
  have t0 : (x0.toNat : Int).tmod 15 = (r : Int) := by rw [Int.tmod_eq_emod_of_nonneg (by omega)]; exact g0
  have t1 : (x1.toNat : Int).tmod 8 = (q : Int) := by rw [Int.tmod_eq_emod_of_nonneg (by omega)]; exact g1
  obtain ⟨S0, hS0⟩ : ∃ S0, nthB wsT r = S0 := ⟨_, rfl⟩
  obtain ⟨S1, hS1⟩ : ∃ S1, nthB txT q = S1 := ⟨_, rfl⟩
  have z1 : (S1 ++ S0).size ≤ 9223372036854775807 := by
    have := congrArg List.length (bs_app2 S1 S0)
    rw [bs_length, List.length_append, bs_length, bs_length, ← hS0, ← hS1] at this
    rw [← hS0, ← hS1]
    omega
  have z2 : (S1 ++ ⟨#[110, 97, 109, 101]⟩).size ≤ 9223372036854775807 := by
    have := congrArg List.length (bs_app2 S1 ⟨#[110, 97, 109, 101]⟩)
    rw [bs_length, List.length_append, bs_length, bs_length, show (⟨#[110, 97, 109, 101]⟩ : ByteArray).size = 4 from rfl, ← hS1] at this
    rw [← hS1]
    omega
  have P1 : Hid (∀ w, _) := hid fun w => parseStmt_any _ z1 w
  have P2 : Hid (∀ w, _) := hid fun w => parseStmt_any _ z2 w
  have W1 : Hid (∀ X a f, PaR (S1 ++ S0) X a f → a = (S1.size : Int) ∧ f = 5) := hid fun X a f h => by
    rw [← hS0, ← hS1] at h
    rw [← hS1]
    exact words1 hq hr h
  have W2 : Hid (∀ X a f, PaR (S1 ++ ⟨#[110, 97, 109, 101]⟩) X a f → f = 0 ∨ a = (S1.size : Int) + 4 ∧ f = 5) := hid fun X a f h => by
    rw [← hS1] at h
    rw [← hS1]
    exact (words2 hq h).2
  have sz : S1.size ≤ 100 := by rw [← hS1]; exact sq
  have sz0 : S0.size ≤ 100 := by rw [← hS0]; exact sr
  have C0 : Hid (∀ w : World, (w.alloc (.cells (wsT.map Value.string).toArray 9)).cell? ⟨w.heap.size, r, none⟩ = some (.string S0)) := hid fun w => by rw [← hS0]; exact cell_str w wsT 9 hr
  have C1 : Hid (∀ w : World, (w.alloc (.cells (txT.map Value.string).toArray 9)).cell? ⟨w.heap.size, q, none⟩ = some (.string S1)) := hid fun w => by rw [← hS1]; exact cell_str w txT 9 hq
  clear hS0 hS1 sq sr z1 z2
  go_enter Try.func3, Try.ntmps3
  go_wp2_with fail
  refine Calls.mono HB.out ?_
  rintro e w1 ⟨rfl, hb1⟩
  have c0 := C0.out w1
  simp only [wsT, List.map_cons, List.map_nil] at c0
  have hbW := bal hb1 (.cells (wsT.map Value.string).toArray 9)
  simp only [wsT, List.map_cons, List.map_nil] at hbW
  clear HB hb1
  go_upto_region 4 with fail
  generalize hW : w1.alloc _ = W at *
  generalize w1.heap.size = b1 at *
  have hWl : b1 < W.heap.size := World.block_lt_of_cell? _ _ c0
  have hr1 : (r : Int) < 15 := by omega
  go_upto_region 6 with fail
  have c1 := C1.out W
  simp only [txT, List.map_cons, List.map_nil] at c1
  have hbV := bal hbW (.cells (txT.map Value.string).toArray 9)
  simp only [txT, List.map_cons, List.map_nil] at hbV
  clear hW
  generalize hV : W.alloc _ = V at *
  generalize W.heap.size = b2 at *
  have hVl : b2 < V.heap.size := World.block_lt_of_cell? _ _ c1
  have hq1 : (q : Int) < 8 := by omega
  clear hV hbW c0
  clear C0 C1
  go_wp2_with fail
  refine Calls.mono (P1.out V) ?_
  rintro e w3 ⟨sv, X, a, f, rfl, hb3, hp, -, -⟩
  obtain ⟨rfl, rfl⟩ := W1.out X a f hp
  have hB3 := Below.on hbV hb3
  clear P1 W1 hp hb3 hbV
  unfold stV
  go_upto_region 8 with fail
  generalize hU : w3.alloc _ = U at *
  have hBU : Below w.heap.size w U := hU ▸ bal hB3 _
  clear hU hB3
  go_wp2_with fail
  refine Calls.mono (P2.out U) ?_
  rintro e w4 ⟨sv2, X2, a2, f2, rfl, hb4, hp2, -, -⟩
  have hf := W2.out X2 a2 f2 hp2
  have hB4 := Below.on hBU hb4
  clear P2 W2 hp2 hb4 hBU
  unfold stV
  rcases hf with rfl | ⟨rfl, rfl⟩
  · go_wp2
    go_ret
    exact ⟨rfl, bal hB4 _⟩
  · go_wp2
    go_ret
    exact ⟨rfl, bal hB4 _⟩

end Go.Proofs.Ytjlmcnbmhgabpab
