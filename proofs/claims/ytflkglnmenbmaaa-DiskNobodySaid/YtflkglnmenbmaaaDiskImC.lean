/- The walks over isName and strings.Clone. -/
import Derived.Test.YtflkglnmenbmaaaDiskImA
import Derived.Test.YtflkglnmenbmaaaShelf
import Derived.Laws.RangeAny
namespace Go.Proofs.Ytflkglnmenbmaaa.Disk.Im
open Go.RowKit Go.Lib

set_option maxRecDepth 100000 in
theorem clone_any (s : ByteArray) (w : World) (hs : s.size ≤ 4096) :
    Calls Try.prog 50 #[.string s] w fun e w' => e = .returned (.string s) ∧ Below w.heap.size w w' := by
  go_enter Try.func50, Try.ntmps50
  go_wp2_with fail
  refine (Try.stringslite_Clone s _ (by omega)).mono ?_
  rintro e w' ⟨rfl, hb⟩
  go_wp2_with fail
  go_ret
  exact ⟨rfl, hb⟩
theorem iter_below (w : World) (s : ByteArray) (p : Nat) : Below w.heap.size w (w.iter s p) := (Below.refl _ w).alloc (Nat.le_refl _) _
set_option maxRecDepth 100000 in
set_option maxHeartbeats 1000000 in
theorem name_any (s : ByteArray) (w : World) (hs : s.size ≤ 9223372036854775807) :
    Calls Try.prog 37 #[.string s] w fun e w' => e = .returned (.bool (decide (isName s))) ∧ Below w.heap.size w w' := by
  by_cases h0 : s.size = 0
  · have e0 : s = ⟨#[]⟩ := by
      apply ByteArray.ext
      exact Array.eq_empty_of_size_eq_zero h0
    subst e0
    have HN : Hid (¬ isName ⟨#[]⟩) := Lib.hid (by decide)
    clear hs h0
    go_enter Try.func37, Try.ntmps37
    go_wp2_with fail
    go_ret
    exact ⟨ret_bool (decide_eq_false HN.out).symm, Below.refl _ _⟩
  have hne : ¬ s.toList = [] := fun e => h0 (by
    rw [ByteArray.toList_eq] at e
    have := congrArg List.length e
    rw [size_list] at this
    exact this)
  have hne2 : s.toList.isEmpty = false := by
    cases h : s.toList with
    | nil => exact absurd h hne
    | cons a l => rfl
  by_cases h12 : 12 < s.size
  · have HN : Hid (¬ isName s) := Lib.hid (fun h => by have := h.2.2; omega)
    clear h0
    go_enter Try.func37, Try.ntmps37
    go_wp2_with fail
    go_ret
    exact ⟨ret_bool (decide_eq_false HN.out).symm, Below.refl _ _⟩
  have h13 : s.size ≤ 12 := by omega
  go_enter Try.func37, Try.ntmps37
  go_wp2_with fail
  go_loopw [] (fun wr => ∃ k : Nat, k ≤ s.size ∧ wr = w.iter s k ∧ Hid (∀ b ∈ s.data.toList.take k, okByte b.toNat)) (fun wr => s.size - wr.iterPos w.heap.size)
  case atStart => exact ⟨0, by omega, rfl, Lib.hid (fun b hb => by simp at hb)⟩
  case round =>
    obtain ⟨k, hk, rfl, HK⟩ := hrel
    by_cases hlt : k < s.size
    · by_cases hasc : (s[k]'hlt).toNat < 128
      · obtain ⟨b, hb⟩ : ∃ b, s[k].toNat = b := ⟨_, rfl⟩
        have hnx : ∀ ty, (Instr.next (.pointer (some ⟨w.heap.size, 0, none⟩)) true ty).run Try.prog (w.iter s k) = .ok (.tuple #[.bool true, .int .i64 k, .int .i32 (b : Nat)]) (w.iter s (k + 1)) := fun ty => by
          rw [← hb]
          exact run_next_ascii w s k ty hlt hasc
        by_cases hok : okByte b
        · have HK2 : Hid (∀ c ∈ s.data.toList.take (k + 1), okByte c.toNat) := Lib.hid (fun c hc => by
            rw [List.take_succ_eq_append_getElem (by rw [size_list]; exact hlt)] at hc
            rcases List.mem_append.1 hc with hc | hc
            · exact HK.out c hc
            · have : c = s.data[k]'hlt := by simpa using hc
              rw [this, show (s.data[k]'hlt).toNat = b from hb]
              exact hok)
          by_cases h46 : b = 46
          · subst h46
            clear hok hb
            go_wp2_with fail
            go_roundw
            case rel => exact ⟨k + 1, by omega, rfl, HK2⟩
            case measure => simp; omega
          · obtain ⟨h1, h2⟩ : 97 ≤ b ∧ b ≤ 122 := by
              rcases hok with h | h
              · exact absurd h h46
              · exact h
            have d1 : ((b : Int) == 46) = false := by simp; omega
            clear hb
            go_wp2_with fail
            go_roundw
            case rel => exact ⟨k + 1, by omega, rfl, HK2⟩
            case measure => simp; omega
        · have HN := Lib.hid (isName_no hlt (by rw [hb]; exact hok))
          have d1 : ((b : Int) == 46) = false := by simp; intro h; exact hok (.inl (by omega))
          have d2 : ((b : Int) != 46) = true := by simp; intro h; exact hok (.inl (by omega))
          have hok2 : b < 97 ∨ 122 < b := by
            rcases Nat.lt_or_ge b 97 with h | h
            · exact .inl h
            · rcases Nat.lt_or_ge 122 b with h' | h'
              · exact .inr h'
              · exact absurd (.inr ⟨h, h'⟩) hok
          by_cases h97 : b < 97
          · clear hok hok2 hb
            go_wp2_with fail
            go_ret
            exact ⟨ret_bool (decide_eq_false HN.out).symm, iter_below _ _ _⟩
          · have h122 : 122 < b := by omega
            clear hok hok2 hb
            go_wp2_with fail
            go_ret
            exact ⟨ret_bool (decide_eq_false HN.out).symm, iter_below _ _ _⟩
      · obtain ⟨hd1, hd2⟩ := decode_high s k hlt (by omega)
        obtain ⟨b, hb⟩ : ∃ b, (Utf8.decode s k).1 = b := ⟨_, rfl⟩
        obtain ⟨n, hn⟩ : ∃ n, k + (Utf8.decode s k).2 = n := ⟨_, rfl⟩
        have hnx : ∀ ty, (Instr.next (.pointer (some ⟨w.heap.size, 0, none⟩)) true ty).run Try.prog (w.iter s k) = .ok (.tuple #[.bool true, .int .i64 k, .int .i32 (b : Nat)]) (w.iter s n) := fun ty => by
          rw [← hb, ← hn]
          exact run_next_any w s k ty hlt
        have HN := Lib.hid (isName_no hlt (fun h => by rcases h with h | h <;> omega))
        rw [hb] at hd1
        have d1 : ((b : Int) == 46) = false := by simp; omega
        have d2 : ((b : Int) != 46) = true := by simp; omega
        have h97 : ¬ b < 97 := by omega
        have h122 : 122 < b := by omega
        clear hb hn hasc hd2
        go_wp2_with fail
        go_ret
        exact ⟨ret_bool (decide_eq_false HN.out).symm, iter_below _ _ _⟩
    · obtain rfl : k = s.size := by omega
      have hall : ∀ b ∈ s.data.toList, okByte b.toNat := fun b hb => HK.out b (by rw [List.take_of_length_le (by rw [size_list]; omega)]; exact hb)
      have HA : Hid (isName s) := Lib.hid ⟨hall, by omega, h13⟩
      have hnx : ∀ ty, (Instr.next (.pointer (some ⟨w.heap.size, 0, none⟩)) true ty).run Try.prog (w.iter s s.size) = .ok (.tuple #[.bool false]) (w.iter s s.size) := fun ty => run_next_end w s s.size ty (by omega)
      clear hall
      go_wp2_with fail
      go_ret
      exact ⟨ret_bool (decide_eq_true HA.out).symm, iter_below _ _ _⟩
end Go.Proofs.Ytflkglnmenbmaaa.Disk.Im
