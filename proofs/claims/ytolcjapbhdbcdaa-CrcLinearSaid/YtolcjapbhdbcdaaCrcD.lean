/- Texts put together by exclusive or, and few texts: the walks. -/
import Derived.Test.YtolcjapbhdbcdaaCrcB
import Derived.Deep.AppendLies
import Derived.Deep.RegionLaw
import Derived.Lib.BufferRead
namespace Go.Proofs.Ytolcjapbhdbcdaa.Crc
open Go.RowKit Go.Lib

def xorL : List UInt8 → List UInt8 → List UInt8
  | a :: l, b :: m => (a ^^^ b) :: xorL l m
  | _, _ => []
theorem xorL_length : ∀ a b : List UInt8, (xorL a b).length = min a.length b.length
  | [], _ => by simp [xorL]
  | _ :: _, [] => by simp [xorL]
  | _ :: l, _ :: m => by simp only [xorL, List.length_cons, xorL_length l m]; omega
theorem xorL_take : ∀ (a b : List UInt8) (k : Nat) (x y : UInt8), a[k]? = some x → b[k]? = some y → xorL (a.take (k + 1)) (b.take (k + 1)) = xorL (a.take k) (b.take k) ++ [x ^^^ y]
  | [], _, _, _, _, h, _ => by simp at h
  | _ :: _, [], _, _, _, _, h => by simp at h
  | p :: l, q :: m, 0, x, y, h1, h2 => by simp at h1 h2; subst h1; subst h2; simp [xorL]
  | p :: l, q :: m, k + 1, x, y, h1, h2 => by
    have := xorL_take l m k x y (by simpa using h1) (by simpa using h2)
    simp only [List.take_succ_cons, xorL, List.cons_append, this]
theorem xorL_all : ∀ (a b : List UInt8) (k : Nat), a.length ≤ k ∨ b.length ≤ k → xorL (a.take k) (b.take k) = xorL a b
  | [], _, _, _ => by simp [xorL]
  | _ :: _, [], _, _ => by simp [xorL]
  | p :: l, q :: m, 0, h => by simp at h
  | p :: l, q :: m, k + 1, h => by
    have := xorL_all l m k (by simpa using h)
    simp only [List.take_succ_cons, xorL, this]
def xorB (a b : ByteArray) : ByteArray := ⟨(xorL a.data.toList b.data.toList).toArray⟩

set_option maxRecDepth 100000 in
set_option maxHeartbeats 1000000 in
theorem xor_any (a b : ByteArray) (w : World) (ha : a.size ≤ 1048576) (hb : b.size ≤ 1048576) :
    Calls Try.prog 15 #[.string a, .string b] w fun e w' => e = .returned (.string (xorB a b)) ∧ Below w.heap.size w w' := by
  obtain ⟨i0, hi, hz0, hz1, hz2⟩ := info_parts info_u8
  go_enter Try.func15, Try.ntmps15
  go_wp2_with fail
  go_loopw [5, 6] (fun v i wr => ∃ k : Nat, k ≤ a.size ∧ k ≤ b.size ∧ i = .int .i64 k ∧ (k = 0 → v = .slice none 0 0) ∧ wr.ownsRow w.heap.size 5 1 v k (byteCells (xorL (a.data.toList.take k) (b.data.toList.take k))) ∧ Below w.heap.size w wr) (fun _ i _ => a.size - (intOf i).toNat)
  case atStart => exact ⟨0, by omega, by omega, rfl, fun _ => rfl, World.ownsRow_nil _ _ _ _, Below.refl _ _⟩
  case round =>
    obtain ⟨k, hka, hkb, rfl, hnil, hown, hbel⟩ := hrel
    by_cases hlt : k < a.size
    · by_cases hlt2 : k < b.size
      · have hx := u8_xor_nat a[k].toNat b[k].toNat a[k].toNat_lt b[k].toNat_lt
        rw [← UInt8.toNat_xor] at hx
        have hxl := xorL_take a.data.toList b.data.toList k a[k] b[k] (by simp [hlt]; rfl) (by simp [hlt2]; rfl)
        obtain ⟨c, hc⟩ : ∃ c, a[k] ^^^ b[k] = c := ⟨_, rfl⟩
        rw [hc] at hx hxl
        have HX := Lib.hid hxl
        have HN := Lib.hid hnil
        have hsz := hbel.size
        clear hc hxl hnil
        go_wp2_with fail
        go_region_law ((refine step_append_lies _ (by rfl) _ _ _ (by rfl) w.heap.size 5 i0 (.int .u8 0) 1 1 Try.underlying31 hi hz0 hz1 hz2 (by rfl) (by omega) u5 k _ (by rfl) ((hown.alloc _).drew) ⟨wr.heap.size, 0, none⟩ 1 1 [.int .u8 c.toNat] (by rfl) (by rfl) (World.news_of_block (cs := #[.int .u8 c.toNat]) (t := 5) (fr := (0, 0)) (heap_alloc_new wr _)) (by simp [Value.oneCell']) (by omega) (by unfold maxLen; omega) (by omega) (by simp; omega) (wr.heap.size + 1) (by simp) ?_; intro g cap w1 hown1 hgrow hat hlt1))
        all_goals
          have hb1 : Below w.heap.size w ((wr.alloc (.cells #[.int .u8 c.toNat] 5)).drew) := (hbel.alloc hsz _).drew
          have hbel1 := below_grown hb1 ((hown.alloc _).drew) hgrow
          clear hgrow hat hown hbel hb1
          rw [show byteCells (xorL (a.data.toList.take k) (b.data.toList.take k)) ++ [Value.int .u8 (c.toNat : Int)] = byteCells (xorL (a.data.toList.take (k + 1)) (b.data.toList.take (k + 1))) by rw [HX.out]; simp [byteCells]] at hown1
          go_wp2_with fail
          go_roundw
          case rel => exact ⟨k + 1, by omega, by omega, by go_num, fun h => by omega, hown1, hbel1⟩
          case measure => simp [intOf]; omega
      · have he := xorL_all a.data.toList b.data.toList k (Or.inr (by rw [size_list]; omega))
        rw [he] at hown
        have HE := Lib.hid he; have HN := Lib.hid hnil
        clear he hnil
        by_cases h0 : k = 0
        · have hv := HN.out h0
          subst hv
          have hnl := HE.out
          rw [h0] at hnl
          have hconv := run_convert_nil_bytes (P := Try.prog) wr 31 9 5 0 Try.underlying31 Try.underlying5 Try.underlying9
          have hx0 : xorB a b = ⟨#[]⟩ := by unfold xorB; rw [← hnl]; rfl
          have HX := Lib.hid hx0
          clear hx0 hnl
          go_wp2_with fail
          go_ret
          exact ⟨ret_str HX.out.symm, hbel⟩
        · obtain ⟨g, cap, rfl, hge, hlt1⟩ := hown.form (by omega)
          have hconv := conv_back wr g cap (xorL a.data.toList b.data.toList) w.heap.size k hown
          go_wp2_with fail
          go_ret
          exact ⟨rfl, hbel⟩
    · have he := xorL_all a.data.toList b.data.toList k (Or.inl (by rw [size_list]; omega))
      rw [he] at hown
      have HE := Lib.hid he; have HN := Lib.hid hnil
      clear he hnil
      by_cases h0 : k = 0
      · have hv := HN.out h0
        subst hv
        have hnl := HE.out
        rw [h0] at hnl
        have hconv := run_convert_nil_bytes (P := Try.prog) wr 31 9 5 0 Try.underlying31 Try.underlying5 Try.underlying9
        have hx0 : xorB a b = ⟨#[]⟩ := by unfold xorB; rw [← hnl]; rfl
        have HX := Lib.hid hx0
        clear hx0 hnl
        go_wp2_with fail
        go_ret
        exact ⟨ret_str HX.out.symm, hbel⟩
      · obtain ⟨g, cap, rfl, hge, hlt1⟩ := hown.form (by omega)
        have hconv := conv_back wr g cap (xorL a.data.toList b.data.toList) w.heap.size k hown
        go_wp2_with fail
        go_ret
        exact ⟨rfl, hbel⟩
end Go.Proofs.Ytolcjapbhdbcdaa.Crc
