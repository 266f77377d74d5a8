/- Lists of numbers: one grown. -/
import Derived.Test.YtkljaaeeocghjaaTinImD
import Derived.Test.YtkljaaeeocghjaaGrow
namespace Go.Proofs.Ytkljaaeeocghjaa.Tab.Im
open Go.RowKit Go.Lib

set_option maxRecDepth 100000 in
theorem elem_int : Program.elem Try.prog 58 = 3 := by kernel_rfl
theorem under_int : Try.prog.underlying 58 = some (.slice (Program.elem Try.prog 58)) := by
  rw [elem_int]
  exact Try.underlying58
set_option maxRecDepth 100000 in
theorem info_int : (Try.prog.info? 3).map (fun i => (i.zero, i.size, i.bytes)) = some (some (.int .i64 0), 1, 8) := by kernel_rfl
theorem take_int (l : List Int) (n : Nat) : icells (l.take n) = (icells l).take (n * 1) := by
  show (l.take n).map (Value.int .i64) = (l.map (Value.int .i64)).take (n * 1)
  rw [List.map_take, Nat.mul_one]
theorem drop_int (l : List Int) (n : Nat) : icells (l.drop n) = (icells l).drop (n * 1) := by
  show (l.drop n).map (Value.int .i64) = (l.map (Value.int .i64)).drop (n * 1)
  rw [List.map_drop, Nat.mul_one]
/-- One append, as an equation. -/
theorem app_int (w : World) (B : Nat) (v : Value) (xs ys : List Int) (h : OwnI w B v xs) (xa : Option Addr) (m xc : Nat) (hm : m = ys.length) (hsrc : ∀ j u, (icells ys)[j]? = some u → ∃ ad, xa = some ad ∧ w.cell? (ad.add j) = some u) (hl : xs.length + ys.length ≤ 1099511627776) (hB : B ≤ w.heap.size) :
    ∃ v' w', (Builtin.append_ #[58, 58] 58 #[v, .slice xa m xc]).run Try.prog w = .ok v' w' ∧ OwnI w' B v' (xs ++ ys) ∧ Below B w w' := by
  obtain ⟨i0, hi, hz0, hz1, hz2⟩ := info_parts info_int
  subst hm
  obtain ⟨v', w', hr, h2, h3⟩ := app_any (P := Try.prog) (t := 58) (e := 3) (i := i0) w B 58 (.int .i64 0) 1 8 Try.underlying58 hi hz0 hz1 hz2 rfl (by omega) v xs.length (icells xs) h xa ys.length xc (icells ys) (by rw [List.length_map, Nat.mul_one]) hsrc (fun u hu => by
    obtain ⟨x, _, rfl⟩ := List.mem_map.1 hu
    rfl) (by unfold maxLen; omega) (by omega) hB
  rw [← List.map_append, ← List.length_append] at h2
  exact ⟨v', w', hr, h2, (Below.refl B w).grown h3 hB (fun k hk => (h.lt k hk).1)⟩
/-- A source's first items, and those from the n-th on. -/
theorem src_take_int {w : World} {B : Nat} {a : Option Addr} {c : Nat} {l : List Int} (h : OwnI w B (.slice a l.length c) l) (n : Nat) :
    ∀ j u, (icells (l.take n))[j]? = some u → ∃ ad, a = some ad ∧ w.cell? (ad.add j) = some u := fun j u hj => by
  obtain ⟨a', c', e, _, _, _, hs⟩ := rowI h
  injection e with e1 _ _
  subst e1
  rw [take_int] at hj
  have hlt := (List.getElem?_eq_some_iff.1 hj).1
  rw [List.length_take] at hlt
  rw [List.getElem?_take_of_lt (by omega)] at hj
  obtain ⟨g, rfl, _, hc⟩ := hs j u hj
  exact ⟨_, rfl, by rw [addr_add, Nat.zero_add]; exact hc⟩
theorem src_drop_int {w : World} {B : Nat} {a : Option Addr} {c : Nat} {l : List Int} (h : OwnI w B (.slice a l.length c) l) (n : Nat) :
    ∀ j u, (icells (l.drop n))[j]? = some u → ∃ ad, atAddr a 1 n c = some ad ∧ w.cell? (ad.add j) = some u := fun j u hj => by
  obtain ⟨a', c', e, hlc, _, _, hs⟩ := rowI h
  injection e with e1 _ e3
  subst e1; subst e3
  have hn : n < l.length := by
    have hlt := (List.getElem?_eq_some_iff.1 hj).1
    rw [List.length_map, List.length_drop] at hlt
    omega
  rw [drop_int, List.getElem?_drop] at hj
  obtain ⟨g, rfl, _, hc⟩ := hs _ u hj
  refine ⟨⟨g, n * 1, none⟩, ?_, ?_⟩
  · unfold atAddr
    rw [if_neg (by omega)]
    simp [addr_add]
  · rw [addr_add]
    exact hc
theorem src_all_int {w : World} {B : Nat} {a : Option Addr} {c : Nat} {l : List Int} (h : OwnI w B (.slice a l.length c) l) : ∀ j u, (icells l)[j]? = some u → ∃ ad, a = some ad ∧ w.cell? (ad.add j) = some u := by
  have := src_take_int h l.length
  rw [List.take_length] at this
  exact this
set_option maxRecDepth 100000 in
set_option maxHeartbeats 2000000 in
theorem grow_int (a : Option Addr) (xs : List Int) (n : Nat) (w : World) (ha : a = none ∨ ∃ g, a = some ⟨g, 0, none⟩) (hsrc : ∀ j u, (icells xs)[j]? = some u → ∃ ad, a = some ad ∧ w.cell? (ad.add j) = some u) (hn : 0 < n ∨ a = none) (hb : xs.length + n ≤ 1048576) :
    Calls Try.prog 70 #[.slice a xs.length xs.length, .int .i64 (n : Nat)] w fun e w' => ∃ v, e = .returned v ∧ OwnI w' w.heap.size v xs ∧ Below w.heap.size w w' := by
  obtain ⟨i0, hi, hz0, hz1, hz2⟩ := info_parts info_int
  obtain ⟨m, hm⟩ : ∃ m, xs.length = m := ⟨_, rfl⟩
  have hm0 : (0 : Int) ≤ (m : Int) := by omega
  rw [hm] at hb ⊢
  rcases Nat.eq_zero_or_pos n with rfl | hpos
  · have hnone : a = none := by
      rcases hn with h | h
      · omega
      · exact h
    subst hnone
    have hx : xs = [] := by
      cases xs with
      | nil => rfl
      | cons u r =>
        obtain ⟨ad, e1, _⟩ := hsrc 0 _ rfl
        cases e1
    subst hx
    obtain rfl : (0 : Nat) = m := hm
    clear hsrc hn ha
    go_enter Try.func70, Try.ntmps70
    go_wp2_with fail
    go_ret
    exact ⟨_, rfl, World.ownsRow_nil _ _ _ _, Below.refl _ _⟩
  · obtain ⟨G, W', hG, hr, hown, hbel⟩ := app_zeros (P := Try.prog) (t := 58) (tn := 3) (e := 3) (i := i0) w Try.underlying58 Try.underlying3 hi hz0 hz1 hz2 rfl (by omega) (by omega) a m (icells xs) (by rw [List.length_map, hm]; omega) hsrc n hpos hb
    have HR := Lib.hid hr
    have HO : Hid (OwnI W' w.heap.size (.slice (some ⟨w.heap.size, 0, none⟩) m G) xs) := Lib.hid (by rw [← hm] at hown ⊢; exact hown)
    have HB := Lib.hid hbel
    have h1 : ¬ ((n : Int) < 0) := by omega
    have h4 : (0 : Int) < (n : Int) := by omega
    have hn2 : (n : Int) ≤ 1048576 := by omega
    have hm2 : (m : Int) ≤ 1048576 := by omega
    have hT1 := run_take (P := Try.prog) w elem_int under_int hi a m m m ha (Nat.le_refl _)
    have hT2 := run_take (P := Try.prog) W' elem_int under_int hi (some ⟨w.heap.size, 0, none⟩) (m + n) G m (.inr ⟨_, rfl⟩) (by omega)
    clear hr hown hbel hsrc hm hn
    rcases ha with rfl | ⟨g, rfl⟩
    · go_enter Try.func70, Try.ntmps70
      go_wp2_with (at_builtin; refine walk_run rfl _ _ _ _ rfl _ _ rfl rfl (HR.out _) ?_)
      go_ret
      exact ⟨_, rfl, HO.out, HB.out⟩
    · go_enter Try.func70, Try.ntmps70
      go_wp2_with (at_builtin; refine walk_run rfl _ _ _ _ rfl _ _ rfl rfl (HR.out _) ?_)
      go_ret
      exact ⟨_, rfl, HO.out, HB.out⟩
end Go.Proofs.Ytkljaaeeocghjaa.Tab.Im
