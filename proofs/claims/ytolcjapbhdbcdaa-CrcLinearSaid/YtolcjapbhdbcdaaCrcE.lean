/- Of three texts the sums, put together, are the sum of the texts put together: the mathematics, and the law's walk. -/
import Derived.Test.YtolcjapbhdbcdaaCrcD
import Derived.Deep.QuietTactic
import Derived.BigQuiet
import Derived.IntWalk
namespace Go.Proofs.Ytolcjapbhdbcdaa.Crc
open Go.RowKit Go.Lib

theorem run_xorL : ∀ (a b : List UInt8) (x y : Nat), a.length = b.length → run (x ^^^ y) (xorL a b) = run x a ^^^ run y b
  | [], [], _, _, _ => rfl
  | p :: l, q :: m, x, y, h => by
    simp only [xorL, run_cons]
    rw [UInt8.toNat_xor, come_xor]
    exact run_xorL l m _ _ (by simpa using h)
  | [], _ :: _, _, _, h => by simp at h
  | _ :: _, [], _, _, h => by simp at h
theorem xorB_size (a b : ByteArray) : (xorB a b).size = min a.size b.size := by
  show (xorL a.data.toList b.data.toList).toArray.size = _
  rw [List.size_toArray, xorL_length, size_list, size_list]
theorem xor_three (p a b c : Nat) : (p ^^^ a) ^^^ (p ^^^ b) ^^^ (p ^^^ c) = p ^^^ (a ^^^ b ^^^ c) := by
  have h1 : (p ^^^ a) ^^^ (p ^^^ b) = a ^^^ b := by
    rw [Nat.xor_comm p a, Nat.xor_assoc, ← Nat.xor_assoc p p, Nat.xor_self, Nat.zero_xor]
  rw [h1, ← Nat.xor_assoc, Nat.xor_comm (a ^^^ b) p, Nat.xor_assoc]
theorem more_three (x y z : ByteArray) (h1 : x.size = y.size) (h2 : y.size = z.size) :
    more 0 x ^^^ more 0 y ^^^ more 0 z = more 0 (xorB (xorB x y) z) := by
  unfold more
  rw [xor_three]
  congr 1
  have e1 := run_xorL x.data.toList y.data.toList (ones ^^^ 0) (ones ^^^ 0) (by rw [size_list, size_list, h1])
  have e2 := run_xorL (xorL x.data.toList y.data.toList) z.data.toList ((ones ^^^ 0) ^^^ (ones ^^^ 0)) (ones ^^^ 0) (by rw [xorL_length, size_list, size_list, size_list]; omega)
  rw [← e1, ← e2]
  rfl

theorem below_of_drewN {w w1 : World} {n : Nat} (h : Below (w.drewN n).heap.size (w.drewN n) w1) : Below w.heap.size w w1 := ⟨h.os, h.tape, h.output, h.size, h.block⟩
theorem cut_size (a : ByteArray) (n : Nat) (h : n ≤ a.size) : (a.extract 0 n).size = n := by rw [ByteArray.size_extract]; omega
set_option maxRecDepth 100000 in
set_option maxHeartbeats 1000000 in
theorem lawLinear_long (a b c : ByteArray) (w : World) (ha : a.size ≤ maxLen) (hb : b.size ≤ maxLen) (hc : c.size ≤ maxLen) (h : 1024 < a.size ∨ (a.size ≤ 1024 ∧ 1024 < b.size) ∨ (a.size ≤ 1024 ∧ b.size ≤ 1024 ∧ 1024 < c.size)) :
    Calls Try.prog 5 #[.string a, .string b, .string c] w fun e w' => e = .returned (.bool true) ∧ Below w.heap.size w w' := by
  unfold maxLen at ha hb hc
  rcases h with h | ⟨h1, h⟩ | ⟨h1, h2, h⟩
  all_goals
    go_enter Try.func5, Try.ntmps5
    go_wp2_with fail
    refine (awake_any _).mono ?_
    rintro e w' ⟨rfl, rfl⟩
    go_wp2_with fail
    go_ret
    exact ⟨rfl, Below.refl _ _⟩
set_option maxRecDepth 100000 in
set_option maxHeartbeats 1000000 in
theorem lawLinear_short (a b c : ByteArray) (w : World) (ha : a.size ≤ 1024) (hb : b.size ≤ 1024) (hc : c.size ≤ 1024) :
    Calls Try.prog 5 #[.string a, .string b, .string c] w fun e w' => e = .returned (.bool true) ∧ Below w.heap.size w w' := by
  have key : (∃ n, a.size = n ∧ n ≤ b.size ∧ n ≤ c.size) ∨ (∃ n, b.size = n ∧ n < a.size ∧ n ≤ c.size) ∨ (∃ n, c.size = n ∧ n < a.size ∧ n < b.size) := by
    rcases Nat.lt_or_ge c.size a.size with h | h <;> rcases Nat.lt_or_ge c.size b.size with h' | h' <;> rcases Nat.lt_or_ge b.size a.size with h'' | h''
    all_goals first | exact Or.inl ⟨_, rfl, by omega, by omega⟩ | exact Or.inr (Or.inl ⟨_, rfl, by omega, by omega⟩) | exact Or.inr (Or.inr ⟨_, rfl, by omega, by omega⟩)
  rcases key with ⟨n, hn, h1, h2⟩ | ⟨n, hn, h1, h2⟩ | ⟨n, hn, h1, h2⟩
  all_goals
    obtain ⟨x, hx⟩ : ∃ x, a.extract 0 n = x := ⟨_, rfl⟩
    obtain ⟨y, hy⟩ : ∃ y, b.extract 0 n = y := ⟨_, rfl⟩
    obtain ⟨z, hz⟩ : ∃ z, c.extract 0 n = z := ⟨_, rfl⟩
    have sx : x.size = n := by rw [← hx]; exact cut_size a n (by omega)
    have sy : y.size = n := by rw [← hy]; exact cut_size b n (by omega)
    have sz : z.size = n := by rw [← hz]; exact cut_size c n (by omega)
    have l3 := more_three x y z (by rw [sx, sy]) (by rw [sy, sz])
    have p1 := more_lt 0 x (by omega)
    have q1 := more_lt 0 y (by omega)
    have r1 := more_lt 0 z (by omega)
    have t1 := u32_xor_nat (more 0 x) (more 0 y) p1 q1
    have t2 := u32_xor_nat (more 0 x ^^^ more 0 y) (more 0 z) (xor_lt p1 q1) r1
    rw [l3] at t2
    have mx : x.size ≤ 1024 := by omega
    have my : y.size ≤ 1024 := by omega
    have mz : z.size ≤ 1024 := by omega
    have mxy : (xorB x y).size ≤ 1024 := by rw [xorB_size]; omega
    have mxyz : (xorB (xorB x y) z).size ≤ 1024 := by rw [xorB_size]; omega
    clear l3 sx sy sz
    obtain ⟨p, hp⟩ : ∃ p, more 0 x = p := ⟨_, rfl⟩
    obtain ⟨q, hq⟩ : ∃ q, more 0 y = q := ⟨_, rfl⟩
    obtain ⟨r, hr⟩ : ∃ r, more 0 z = r := ⟨_, rfl⟩
    rw [hp] at p1 t1 t2
    rw [hq] at q1 t1 t2
    rw [hr] at r1 t2
    obtain ⟨u, hu⟩ : ∃ u, p ^^^ q = u := ⟨_, rfl⟩
    rw [hu] at t1 t2
    obtain ⟨xy, hxy⟩ : ∃ xy, xorB x y = xy := ⟨_, rfl⟩
    rw [hxy] at mxy mxyz t2
    obtain ⟨xyz, hxyz⟩ : ∃ xyz, xorB xy z = xyz := ⟨_, rfl⟩
    rw [hxyz] at mxyz t2
    have t3 := more_lt 0 xyz (by omega)
    obtain ⟨v, hv⟩ : ∃ v, more 0 xyz = v := ⟨_, rfl⟩
    rw [hv] at t2 t3
    have HP := Lib.hid hp; have HQ := Lib.hid hq; have HR := Lib.hid hr; have HU := Lib.hid hu; have HXY := Lib.hid hxy; have HXYZ := Lib.hid hxyz; have HV := Lib.hid hv
    clear hp hq hr hu hxy hxyz hv
    have hnc : n ≤ 1024 := by omega
    have hna : n ≤ a.size := by omega
    have hnb : n ≤ b.size := by omega
    have hnc : n ≤ c.size := by omega
    go_enter Try.func5, Try.ntmps5
    go_wp2_with fail
    go_quiet (fail)
    clear hx hy hz
    go_wp2_with fail
    refine (sum_any x _ (by unfold maxLen; omega)).mono ?_
    rintro e w' ⟨rfl, rfl⟩
    rw [HP.out]
    go_wp2_with fail
    refine (sum_any y _ (by unfold maxLen; omega)).mono ?_
    rintro e w' ⟨rfl, rfl⟩
    rw [HQ.out]
    go_wp2_with fail
    refine (sum_any z _ (by unfold maxLen; omega)).mono ?_
    rintro e w' ⟨rfl, rfl⟩
    rw [HR.out]
    go_wp2_with fail
    refine (xor_any x y _ (by omega) (by omega)).mono ?_
    rintro e w1 ⟨rfl, hb1⟩
    rw [HXY.out]
    go_wp2_with fail
    refine (xor_any xy z _ (by omega) (by omega)).mono ?_
    rintro e w2 ⟨rfl, hb2⟩
    rw [HXYZ.out]
    go_wp2_with fail
    refine (sum_any xyz _ (by unfold maxLen; omega)).mono ?_
    rintro e w' ⟨rfl, rfl⟩
    rw [HV.out]
    go_wp2_with fail
    refine (awake_any _).mono ?_
    rintro e w' ⟨rfl, rfl⟩
    go_wp2_with fail
    go_ret
    exact ⟨rfl, below_then (below_of_drewN hb1) hb2⟩
theorem lawLinear (a b c : ByteArray) (w : World) (ha : a.size ≤ maxLen) (hb : b.size ≤ maxLen) (hc : c.size ≤ maxLen) :
    Calls Try.prog 5 #[.string a, .string b, .string c] w fun e w' => e = .returned (.bool true) ∧ Below w.heap.size w w' := by
  by_cases h1 : a.size ≤ 1024
  · by_cases h2 : b.size ≤ 1024
    · by_cases h3 : c.size ≤ 1024
      · exact lawLinear_short a b c w h1 h2 h3
      · exact lawLinear_long a b c w ha hb hc (Or.inr (Or.inr ⟨h1, h2, by omega⟩))
    · exact lawLinear_long a b c w ha hb hc (Or.inr (Or.inl ⟨h1, by omega⟩))
  · exact lawLinear_long a b c w ha hb hc (Or.inl (by omega))
end Go.Proofs.Ytolcjapbhdbcdaa.Crc
