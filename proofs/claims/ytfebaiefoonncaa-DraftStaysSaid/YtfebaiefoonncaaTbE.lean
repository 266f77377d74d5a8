/- Lists of keys: one grown. -/
import Derived.Test.YtfebaiefoonncaaTbB
import Derived.Test.YtfebaiefoonncaaGrow
namespace Go.Proofs.Ytfebaiefoonncaa.Tb
open Go.RowKit Go.Lib

set_option maxRecDepth 100000 in
theorem elem_key : Program.elem Try.prog 41 = 65 := by kernel_rfl
theorem under_key : Try.prog.underlying 41 = some (.slice (Program.elem Try.prog 41)) := by
  rw [elem_key]
  exact Try.underlying41
theorem take_key (l : List Key) (n : Nat) : kcells (l.take n) = (kcells l).take (n * 4) := by
  induction n generalizing l with
  | zero => simp [kcells]
  | succ n ih =>
    cases l with
    | nil => simp [kcells]
    | cons k l =>
      rw [List.take_succ_cons, kcells_cons, kcells_cons, ih, show (n + 1) * 4 = (keyCells k).length + n * 4 by show _ = 4 + n * 4; omega, List.take_length_add_append]
theorem drop_key (l : List Key) (n : Nat) : kcells (l.drop n) = (kcells l).drop (n * 4) := by
  induction n generalizing l with
  | zero => simp
  | succ n ih =>
    cases l with
    | nil => simp [kcells]
    | cons k l =>
      rw [List.drop_succ_cons, kcells_cons, ih, show (n + 1) * 4 = (keyCells k).length + n * 4 by show _ = 4 + n * 4; omega, List.drop_length_add_append]
/-- One append, as an equation. -/
theorem app_key (w : World) (B : Nat) (v : Value) (xs ys : List Key) (h : OwnK w B v xs) (xa : Option Addr) (m xc : Nat) (hm : m = ys.length) (hsrc : ∀ j u, (kcells ys)[j]? = some u → ∃ ad, xa = some ad ∧ w.cell? (ad.add j) = some u) (hl : xs.length + ys.length ≤ 1099511627776) (hB : B ≤ w.heap.size) :
    ∃ v' w', (Builtin.append_ #[41, 41] 41 #[v, .slice xa m xc]).run Try.prog w = .ok v' w' ∧ OwnK w' B v' (xs ++ ys) ∧ Below B w w' := by
  exact app_keys w B v xs ys h xa m xc hm hsrc hl hB
/-- A source's first items, and those from the n-th on. -/
theorem src_take_key {w : World} {B : Nat} {a : Option Addr} {c : Nat} {l : List Key} (h : OwnK w B (.slice a l.length c) l) (n : Nat) :
    ∀ j u, (kcells (l.take n))[j]? = some u → ∃ ad, a = some ad ∧ w.cell? (ad.add j) = some u := fun j u hj => by
  obtain ⟨a', c', e, _, _, _, hs⟩ := rowK h
  injection e with e1 _ _
  subst e1
  rw [take_key] at hj
  have hlt := (List.getElem?_eq_some_iff.1 hj).1
  rw [List.length_take] at hlt
  rw [List.getElem?_take_of_lt (by omega)] at hj
  obtain ⟨g, rfl, _, hc⟩ := hs j u hj
  exact ⟨_, rfl, by rw [addr_add, Nat.zero_add]; exact hc⟩
theorem src_drop_key {w : World} {B : Nat} {a : Option Addr} {c : Nat} {l : List Key} (h : OwnK w B (.slice a l.length c) l) (n : Nat) :
    ∀ j u, (kcells (l.drop n))[j]? = some u → ∃ ad, atAddr a 4 n c = some ad ∧ w.cell? (ad.add j) = some u := fun j u hj => by
  obtain ⟨a', c', e, hlc, _, _, hs⟩ := rowK h
  injection e with e1 _ e3
  subst e1; subst e3
  have hn : n < l.length := by
    have hlt := (List.getElem?_eq_some_iff.1 hj).1
    rw [kcells_length, List.length_drop] at hlt
    omega
  rw [drop_key, List.getElem?_drop] at hj
  obtain ⟨g, rfl, _, hc⟩ := hs _ u hj
  refine ⟨⟨g, n * 4, none⟩, ?_, ?_⟩
  · unfold atAddr
    rw [if_neg (by omega)]
    simp [addr_add]
  · rw [addr_add]
    exact hc
theorem src_all_key {w : World} {B : Nat} {a : Option Addr} {c : Nat} {l : List Key} (h : OwnK w B (.slice a l.length c) l) : ∀ j u, (kcells l)[j]? = some u → ∃ ad, a = some ad ∧ w.cell? (ad.add j) = some u := by
  have := src_take_key h l.length
  rw [List.take_length] at this
  exact this
set_option maxRecDepth 100000 in
set_option maxHeartbeats 2000000 in
theorem grow_key (a : Option Addr) (xs : List Key) (n : Nat) (w : World) (ha : a = none ∨ ∃ g, a = some ⟨g, 0, none⟩) (hsrc : ∀ j u, (kcells xs)[j]? = some u → ∃ ad, a = some ad ∧ w.cell? (ad.add j) = some u) (hn : 0 < n ∨ a = none) (hb : xs.length + n ≤ 1048576) :
    Calls Try.prog 48 #[.slice a xs.length xs.length, .int .i64 (n : Nat)] w fun e w' => ∃ v, e = .returned v ∧ OwnK w' w.heap.size v xs ∧ Below w.heap.size w w' := by
  obtain ⟨i0, hi, hz0, hz1, hz2⟩ := info_parts info_key
  obtain ⟨m, hm⟩ : ∃ m, xs.length = m := ⟨_, rfl⟩
  have hm0 : (0 : Int) ≤ (m : Int) := by omega
  rw [hm] at hb ⊢
  rcases Nat.eq_zero_or_pos n with rfl | hpos
  · have hnone : a = none := by
      rcases hn with h | h
      · omega
      · exact h
    subst hnone
    have hx : xs = [] := by
      cases xs with
      | nil => rfl
      | cons u r =>
        obtain ⟨ad, e1, _⟩ := hsrc 0 _ rfl
        cases e1
    subst hx
    obtain rfl : (0 : Nat) = m := hm
    clear hsrc hn ha
    go_enter Try.func48, Try.ntmps48
    go_wp2_with fail
    go_ret
    exact ⟨_, rfl, World.ownsRow_nil _ _ _ _, Below.refl _ _⟩
  · obtain ⟨G, W', hG, hr, hown, hbel⟩ := app_zeros (P := Try.prog) (t := 41) (tn := 3) (e := 65) (i := i0) w Try.underlying41 Try.underlying3 hi hz0 hz1 hz2 rfl (by omega) (by omega) a m (kcells xs) (by rw [kcells_length, hm]) hsrc n hpos hb
    have HR := Lib.hid hr
    have HO : Hid (OwnK W' w.heap.size (.slice (some ⟨w.heap.size, 0, none⟩) m G) xs) := Lib.hid (by rw [← hm] at hown ⊢; exact hown)
    have HB := Lib.hid hbel
    have h1 : ¬ ((n : Int) < 0) := by omega
    have h4 : (0 : Int) < (n : Int) := by omega
    have hn2 : (n : Int) ≤ 1048576 := by omega
    have hm2 : (m : Int) ≤ 1048576 := by omega
    have hT1 := run_take (P := Try.prog) w elem_key under_key hi a m m m ha (Nat.le_refl _)
    have hT2 := run_take (P := Try.prog) W' elem_key under_key hi (some ⟨w.heap.size, 0, none⟩) (m + n) G m (.inr ⟨_, rfl⟩) (by omega)
    clear hr hown hbel hsrc hm hn
    rcases ha with rfl | ⟨g, rfl⟩
    · go_enter Try.func48, Try.ntmps48
      go_wp2_with (at_builtin; refine walk_run rfl _ _ _ _ rfl _ _ rfl rfl (HR.out _) ?_)
      go_ret
      exact ⟨_, rfl, HO.out, HB.out⟩
    · go_enter Try.func48, Try.ntmps48
      go_wp2_with (at_builtin; refine walk_run rfl _ _ _ _ rfl _ _ rfl rfl (HR.out _) ?_)
      go_ret
      exact ⟨_, rfl, HO.out, HB.out⟩
end Go.Proofs.Ytfebaiefoonncaa.Tb
