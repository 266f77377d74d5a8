/- What the laws ask of the program's graph, said once; what must come, whatever the arguments are. -/
import Derived.Test.YtghjcefigdkhnaaGraphF
import Derived.Test.YtghjcefigdkhnaaIntSame
namespace Go.Proofs.Ytghjcefigdkhnaa.Graph
open Go.RowKit Go.Lib IRows

def I64 (x : Int) : Prop := -9223372036854775808 ≤ x ∧ x ≤ 9223372036854775807
def InN (l : List Nd) : Prop := ∀ t ∈ l, I64 t.a ∧ I64 t.b
/-- The program's functions answer in the document's words. -/
structure Impl : Prop where
  order : ∀ (n : Int) (a : Option Addr) (m c : Nat) (l : List Nd) (w : World), l.length = m → Nds w a l → m ≤ 1000 → InN l → I64 n →
    Calls Try.prog 8 #[.int .i64 n, .slice a m c] w fun e w' => ∃ a' m' c', e = .returned (.tuple #[.slice a' m' c', .int .i64 (ordE n l)]) ∧ Hid ((ordV n l).length = m' ∧ KS w' w.heap.size (.slice a' m' c') (ordV n l) ∧ Below w.heap.size w w')
  deep : ∀ (n : Int) (a : Option Addr) (m c : Nat) (l : List Nd) (w : World), l.length = m → Nds w a l → m ≤ 1000 → InN l → I64 n →
    Calls Try.prog 10 #[.int .i64 n, .slice a m c] w fun e w' => ∃ a' m' c', e = .returned (.tuple #[.slice a' m' c', .int .i64 (ordE n l)]) ∧ Hid ((degV n l).length = m' ∧ KS w' w.heap.size (.slice a' m' c') (degV n l) ∧ Below w.heap.size w w')
  below : ∀ (n : Int) (a : Option Addr) (m c : Nat) (l : List Nd) (x : Int) (w : World), l.length = m → Nds w a l → m ≤ 1000 → InN l → I64 n → I64 x →
    Calls Try.prog 12 #[.int .i64 n, .slice a m c, .int .i64 x] w fun e w' => ∃ a' m' c', e = .returned (.tuple #[.slice a' m' c', .int .i64 (belE n l x)]) ∧ Hid ((belV n l x).length = m' ∧ KS w' w.heap.size (.slice a' m' c') (belV n l x) ∧ Below w.heap.size w w')
  ways : ∀ (n : Int) (a : Option Addr) (m c : Nat) (l : List Nd) (x y : Int) (w : World), l.length = m → Nds w a l → m ≤ 1000 → InN l → I64 n → I64 x → I64 y →
    Calls Try.prog 15 #[.int .i64 n, .slice a m c, .int .i64 x, .int .i64 y] w fun e w' => e = .returned (.tuple #[.int .i64 (wayV n l x y), .int .i64 (wayE n l x y)]) ∧ Below w.heap.size w w'
open Classical in
theorem dways (n : Int) (a : Option Addr) (m c : Nat) (l : List Nd) (x y : Int) (w : World) (hl : l.length = m) (hs : Nds w a l) (hm : m ≤ 1048576) :
    Calls Try.prog 16 #[.int .i64 n, .slice a m c, .int .i64 x, .int .i64 y] w fun e w' => e = .returned (.tuple #[.int .i64 (wayV n l x y), .int .i64 (wayE n l x y)]) ∧ Below w.heap.size w w' := by
  by_cases h : WayOk n l x y
  · exact ways_go n a m c l x y w hl hs hm h
  · obtain ⟨e1, e2⟩ := way_arg h
    rw [e1, e2]
    refine (ways_not n a m c l x y w hl hs hm h).mono ?_
    rintro e w' ⟨rfl, rfl⟩
    exact ⟨rfl, Below.refl _ _⟩
/-! answers that can be reckoned -/
def readyB (l : List Nd) (out : List Int) (k : Int) : Bool := !(out.contains k) && l.all fun t => t.a != k || out.contains t.b
theorem readyB_is (l : List Nd) (out : List Int) (k : Int) : readyB l out k = true ↔ Ready l out k := by
  unfold readyB Ready
  simp only [Bool.and_eq_true, Bool.not_eq_true', List.all_eq_true, Bool.or_eq_true, bne_iff_ne, ne_eq, List.contains_eq_mem, decide_eq_true_eq, decide_eq_false_iff_not]
  refine and_congr Iff.rfl ⟨fun h t ht e => ?_, fun h t ht => ?_⟩
  · rcases h t ht with h1 | h1
    · exact absurd e h1
    · exact h1
  · by_cases e : t.a = k
    · exact .inr (h t ht e)
    · exact .inl e
def nxB (n : Int) (l : List Nd) (out : List Int) : Nat → Int
  | 0 => 0
  | m + 1 => if readyB l out (n - m) = true then n - m else nxB n l out m
theorem nx_B (n : Int) (l : List Nd) (out : List Int) : ∀ m, nx n l out m = nxB n l out m
  | 0 => rfl
  | m + 1 => by
    by_cases h : Ready l out (n - m)
    · rw [nx_yes h]
      unfold nxB
      rw [if_pos ((readyB_is _ _ _).2 h)]
    · rw [nx_no h, nx_B n l out m]
      conv => rhs; unfold nxB
      rw [if_neg fun e => h ((readyB_is _ _ _).1 e)]
def ordB (n : Int) (l : List Nd) : Nat → List Int → Option (List Int)
  | 0, out => some out
  | m + 1, out => if nxB n l out n.toNat = 0 then none else ordB n l m (out ++ [nxB n l out n.toNat])
theorem ord_B (n : Int) (l : List Nd) : ∀ (m : Nat) (out : List Int), ordF n l m out = ordB n l m out
  | 0, _ => rfl
  | m + 1, out => by
    by_cases h : nx n l out n.toNat = 0
    · rw [ordF_none h]
      unfold ordB
      rw [if_pos (by rw [← nx_B]; exact h)]
    · rw [ordF_more h, ord_B n l m]
      conv => rhs; unfold ordB
      rw [if_neg (by rw [← nx_B]; exact h), nx_B]
def l1 : List Nd := [⟨1, 3⟩, ⟨2, 1⟩]
def l2 : List Nd := [⟨1, 2⟩, ⟨2, 1⟩]
def l3 : List Nd := [⟨2, 1⟩, ⟨2, 3⟩, ⟨1, 3⟩]
theorem may1 : May 3 l1 := ⟨by omega, by decide, fun t ht => by simp [l1] at ht; rcases ht with rfl | rfl <;> simp [OkNd]⟩
theorem may2 : May 2 l2 := ⟨by omega, by decide, fun t ht => by simp [l2] at ht; rcases ht with rfl | rfl <;> simp [OkNd]⟩
theorem may3 : May 3 l3 := ⟨by omega, by decide, fun t ht => by simp [l3] at ht; rcases ht with rfl | rfl | rfl <;> simp [OkNd]⟩
theorem ord1 : ordE 3 l1 = 0 ∧ ordV 3 l1 = [3, 1, 2] := ord_some may1 (by rw [ord_B]; decide)
theorem ord2 : ordE 2 l2 = 9 ∧ ordV 2 l2 = [] := ord_none may2 (by rw [ord_B]; decide)
theorem ord3 : ordE 3 l3 = 0 ∧ ordV 3 l3 = [3, 1, 2] := ord_some may3 (by rw [ord_B]; decide)
theorem deg1 : degV 3 l1 = [1, 2, 0] := by
  unfold degV
  rw [if_pos ord1.1, ord1.2]
  decide
theorem way3 : wayE 3 l3 2 3 = 0 ∧ wayV 3 l3 2 3 = 2 := by
  have e : nw 3 l3 3 2 = 2 := by decide
  have := way_fine (n := 3) (l := l3) (x := 2) (y := 3) ⟨may3, by omega, by omega⟩ ord3.1 (by rw [e]; decide)
  rw [e] at this
  exact this
theorem in1 : InN l1 := fun t ht => by simp [l1] at ht; rcases ht with rfl | rfl <;> simp [I64]
theorem in2 : InN l2 := fun t ht => by simp [l2] at ht; rcases ht with rfl | rfl <;> simp [I64]
theorem in3 : InN l3 := fun t ht => by simp [l3] at ht; rcases ht with rfl | rfl | rfl <;> simp [I64]
/-- Needs that a composite literal lays. -/
theorem nds_lit {w : World} {g : Nat} {cs : Array Value} {T : TypeId} (l : List Nd) (h : w.heap[g]? = some (.cells cs T (0, 0))) (hc : ∀ (i : Nat) (t : Nd), l[i]? = some t → cs[i * 2]? = some (.int .i64 t.a) ∧ cs[i * 2 + 1]? = some (.int .i64 t.b)) : Nds w (some ⟨g, 0, none⟩) l := fun i t hi => by
  obtain ⟨h1, h2⟩ := hc i t hi
  refine ⟨g, 0, rfl, (Array.getElem?_eq_some_iff.1 h).1, ?_, ?_⟩
  · rw [Nat.zero_add]
    exact cell_block h h1
  · rw [Nat.zero_add]
    exact cell_block h h2
theorem cs1 (i : Nat) (t : Nd) (h : l1[i]? = some t) : (#[Value.int .i64 1, .int .i64 3, .int .i64 2, .int .i64 1] : Array Value)[i * 2]? = some (.int .i64 t.a) ∧ (#[Value.int .i64 1, .int .i64 3, .int .i64 2, .int .i64 1] : Array Value)[i * 2 + 1]? = some (.int .i64 t.b) := by
  match i, h with
  | 0, h => cases h; exact ⟨rfl, rfl⟩
  | 1, h => cases h; exact ⟨rfl, rfl⟩
theorem cs2 (i : Nat) (t : Nd) (h : l2[i]? = some t) : (#[Value.int .i64 1, .int .i64 2, .int .i64 2, .int .i64 1] : Array Value)[i * 2]? = some (.int .i64 t.a) ∧ (#[Value.int .i64 1, .int .i64 2, .int .i64 2, .int .i64 1] : Array Value)[i * 2 + 1]? = some (.int .i64 t.b) := by
  match i, h with
  | 0, h => cases h; exact ⟨rfl, rfl⟩
  | 1, h => cases h; exact ⟨rfl, rfl⟩
theorem cs3 (i : Nat) (t : Nd) (h : l3[i]? = some t) : (#[Value.int .i64 2, .int .i64 1, .int .i64 2, .int .i64 3, .int .i64 1, .int .i64 3] : Array Value)[i * 2]? = some (.int .i64 t.a) ∧ (#[Value.int .i64 2, .int .i64 1, .int .i64 2, .int .i64 3, .int .i64 1, .int .i64 3] : Array Value)[i * 2 + 1]? = some (.int .i64 t.b) := by
  match i, h with
  | 0, h => cases h; exact ⟨rfl, rfl⟩
  | 1, h => cases h; exact ⟨rfl, rfl⟩
  | 2, h => cases h; exact ⟨rfl, rfl⟩
open Classical in
set_option maxRecDepth 100000 in
set_option maxHeartbeats 4000000 in
theorem awake_in (I : Impl) (w : World) : Calls Try.prog 7 #[] w fun e w' => e = .returned (.bool true) ∧ Below w.heap.size w w' := by
  have H1 : Hid (∀ W, Below w.heap.size w W → Calls Try.prog 8 #[.int .i64 3, .slice (some ⟨W.heap.size, 0, none⟩) 2 2] (W.alloc (.cells #[.int .i64 1, .int .i64 3, .int .i64 2, .int .i64 1] 31)) fun e w' => ∃ a c, e = .returned (.tuple #[.slice a 3 c, .int .i64 0]) ∧ Hid (IRow w' a [3, 1, 2] ∧ Below w.heap.size w w')) := Lib.hid fun W hW => by
    have hb := (Below.refl _ W).alloc (Nat.le_refl _) (.cells #[.int .i64 1, .int .i64 3, .int .i64 2, .int .i64 1] 31)
    have := I.order 3 (some ⟨W.heap.size, 0, none⟩) 2 2 l1 (W.alloc (.cells #[.int .i64 1, .int .i64 3, .int .i64 2, .int .i64 1] 31)) rfl (nds_lit l1 (heap_alloc_new W (.cells #[.int .i64 1, .int .i64 3, .int .i64 2, .int .i64 1] 31)) cs1) (by omega) in1 (by simp [I64])
    rw [ord1.1, ord1.2] at this
    refine this.mono ?_
    rintro e w' ⟨a, m, c, rfl, H⟩
    obtain ⟨hm, hk, hbl⟩ := H.out
    obtain rfl : 3 = m := hm
    obtain ⟨a', c', e, hr⟩ := irow_own hk
    injection e with e1 _ _
    subst e1
    exact ⟨a, c, rfl, Lib.hid ⟨hr, below_then (below_then hW hb) hbl⟩⟩
  have H2 : Hid (∀ W, Below w.heap.size w W → Calls Try.prog 8 #[.int .i64 2, .slice (some ⟨W.heap.size, 0, none⟩) 2 2] (W.alloc (.cells #[.int .i64 1, .int .i64 2, .int .i64 2, .int .i64 1] 31)) fun e w' => ∃ a m c, e = .returned (.tuple #[.slice a m c, .int .i64 9]) ∧ Hid (Below w.heap.size w w' ∧ Below W.heap.size W w')) := Lib.hid fun W hW => by
    have hb := (Below.refl _ W).alloc (Nat.le_refl _) (.cells #[.int .i64 1, .int .i64 2, .int .i64 2, .int .i64 1] 31)
    have := I.order 2 (some ⟨W.heap.size, 0, none⟩) 2 2 l2 (W.alloc (.cells #[.int .i64 1, .int .i64 2, .int .i64 2, .int .i64 1] 31)) rfl (nds_lit l2 (heap_alloc_new W (.cells #[.int .i64 1, .int .i64 2, .int .i64 2, .int .i64 1] 31)) cs2) (by omega) in2 (by simp [I64])
    rw [ord2.1] at this
    refine this.mono ?_
    rintro e w' ⟨a, m, c, rfl, H⟩
    exact ⟨a, m, c, rfl, Lib.hid ⟨below_then (below_then hW hb) H.out.2.2, below_then hb H.out.2.2⟩⟩
  have H3 : Hid (∀ W, Below w.heap.size w W → Calls Try.prog 10 #[.int .i64 3, .slice (some ⟨W.heap.size, 0, none⟩) 2 2] (W.alloc (.cells #[.int .i64 1, .int .i64 3, .int .i64 2, .int .i64 1] 31)) fun e w' => ∃ a c, e = .returned (.tuple #[.slice a 3 c, .int .i64 0]) ∧ Hid (IRow w' a [1, 2, 0] ∧ Below w.heap.size w w' ∧ Below W.heap.size W w')) := Lib.hid fun W hW => by
    have hb := (Below.refl _ W).alloc (Nat.le_refl _) (.cells #[.int .i64 1, .int .i64 3, .int .i64 2, .int .i64 1] 31)
    have := I.deep 3 (some ⟨W.heap.size, 0, none⟩) 2 2 l1 (W.alloc (.cells #[.int .i64 1, .int .i64 3, .int .i64 2, .int .i64 1] 31)) rfl (nds_lit l1 (heap_alloc_new W (.cells #[.int .i64 1, .int .i64 3, .int .i64 2, .int .i64 1] 31)) cs1) (by omega) in1 (by simp [I64])
    rw [ord1.1, deg1] at this
    refine this.mono ?_
    rintro e w' ⟨a, m, c, rfl, H⟩
    obtain ⟨hm, hk, hbl⟩ := H.out
    obtain rfl : 3 = m := hm
    obtain ⟨a', c', e, hr⟩ := irow_own hk
    injection e with e1 _ _
    subst e1
    exact ⟨a, c, rfl, Lib.hid ⟨hr, below_then (below_then hW hb) hbl, below_then hb hbl⟩⟩
  have H4 : Hid (∀ W, Below w.heap.size w W → Calls Try.prog 15 #[.int .i64 3, .slice (some ⟨W.heap.size, 0, none⟩) 3 3, .int .i64 2, .int .i64 3] (W.alloc (.cells #[.int .i64 2, .int .i64 1, .int .i64 2, .int .i64 3, .int .i64 1, .int .i64 3] 31)) fun e w' => e = .returned (.tuple #[.int .i64 2, .int .i64 0]) ∧ Hid (Below w.heap.size w w' ∧ Below W.heap.size W w')) := Lib.hid fun W hW => by
    have hb := (Below.refl _ W).alloc (Nat.le_refl _) (.cells #[.int .i64 2, .int .i64 1, .int .i64 2, .int .i64 3, .int .i64 1, .int .i64 3] 31)
    have := I.ways 3 (some ⟨W.heap.size, 0, none⟩) 3 3 l3 2 3 (W.alloc (.cells #[.int .i64 2, .int .i64 1, .int .i64 2, .int .i64 3, .int .i64 1, .int .i64 3] 31)) rfl (nds_lit l3 (heap_alloc_new W (.cells #[.int .i64 2, .int .i64 1, .int .i64 2, .int .i64 3, .int .i64 1, .int .i64 3] 31)) cs3) (by omega) in3 (by simp [I64]) (by simp [I64]) (by simp [I64])
    rw [way3.1, way3.2] at this
    refine this.mono ?_
    rintro e w' ⟨rfl, hbl⟩
    exact ⟨rfl, Lib.hid ⟨below_then (below_then hW hb) hbl, below_then hb hbl⟩⟩
  have HS : Hid (∀ (W : World) (x y z : Int) (a : Option Addr) (c : Nat), Below w.heap.size w W → IRow W a [x, y, z] → Calls Try.prog 14 #[.slice a 3 c, .slice (some ⟨W.heap.size, 0, none⟩) 3 3] (W.alloc (.cells #[.int .i64 x, .int .i64 y, .int .i64 z] 3)) fun e w' => e = .returned (.bool true) ∧ Hid (Below w.heap.size w w' ∧ Below W.heap.size W w')) := Lib.hid fun W x y z a c hW hr => by
    have hb := (Below.refl _ W).alloc (Nat.le_refl _) (.cells #[.int .i64 x, .int .i64 y, .int .i64 z] 3)
    have := dsame a 3 c [x, y, z] (some ⟨W.heap.size, 0, none⟩) 3 3 [x, y, z] (W.alloc (.cells #[.int .i64 x, .int .i64 y, .int .i64 z] 3)) rfl (hr.under hb) (by omega) rfl (irow_lit [x, y, z] (heap_alloc_new W (.cells #[.int .i64 x, .int .i64 y, .int .i64 z] 3)) rfl) (by omega)
    rw [decide_eq_true rfl] at this
    exact this.mono fun _ _ ⟨e, h⟩ => ⟨e, Lib.hid ⟨below_then (below_then hW hb) h, below_then hb h⟩⟩
  clear I
  go_enter Try.func7, Try.ntmps7
  go_wp2_with fail
  refine (H1.out _ (Below.refl _ _)).mono ?_
  rintro e w1 ⟨a1, c1, rfl, K1⟩
  go_wp2_with fail
  refine (H2.out _ K1.out.2).mono ?_
  rintro e w2 ⟨a2, m2, c2, rfl, K2⟩
  have I2 := Lib.hid (K1.out.1.under K2.out.2)
  go_wp2_with fail
  refine (H3.out _ K2.out.1).mono ?_
  rintro e w3 ⟨a3, c3, rfl, K3⟩
  have I3 := Lib.hid (I2.out.under K3.out.2.2)
  go_wp2_with fail
  refine (H4.out _ K3.out.2.1).mono ?_
  rintro e w4 ⟨rfl, K4⟩
  have I4 := Lib.hid (I3.out.under K4.out.2)
  have J4 := Lib.hid (K3.out.1.under K4.out.2)
  go_wp2_with fail
  refine (HS.out _ 3 1 2 _ _ K4.out.1 I4.out).mono ?_
  rintro e w5 ⟨rfl, K5⟩
  have J5 := Lib.hid (J4.out.under K5.out.2)
  go_wp2_with fail
  refine (HS.out _ 1 2 0 _ _ K5.out.1 J5.out).mono ?_
  rintro e w6 ⟨rfl, K6⟩
  go_wp2_with fail
  go_ret
  exact ⟨rfl, K6.out.1⟩
end Go.Proofs.Ytghjcefigdkhnaa.Graph
