/- FeeSplits, for any fees that keep their contracts. -/
import Derived.Test.YtaffdddleegfcaaFeeH
namespace Go.Proofs.Ytaffdddleegfcaa.Fee
open Go.RowKit Go.Lib IRows

theorem valSp_length (n : Int) (ws : List Int) : (valSp n ws).length ≤ ws.length := by
  unfold valSp
  split
  · rw [shares_length]
    exact Nat.le_refl _
  · exact Nat.zero_le _
set_option maxRecDepth 100000 in
set_option maxHeartbeats 4000000 in
theorem feeSplits_in (I : Impl) (n : Int) (a : Option Addr) (m c : Nat) (ws : List Int) (w : World) (hl : ws.length = m) (hs : IRow w a ws) (hn : I64 n) (hw : ∀ v ∈ ws, I64 v) :
    Calls Try.prog 4 #[.int .i64 n, .slice a m c] w fun e w' => e = .returned (.bool true) ∧ Below w.heap.size w w' := by
  have HW := awake_at I w
  by_cases h20 : (20 : Int) < (m : Int)
  · have H0 := Lib.hid (HW.out w (Below.refl _ _))
    clear hl hs hn hw HW I
    go_enter Try.func4, Try.ntmps4
    go_wp2_with fail
    refine H0.out.mono ?_
    rintro e w1 ⟨rfl, B1⟩
    go_wp2_with fail
    go_ret
    exact ⟨rfl, B1.out⟩
  · have hm : m ≤ 20 := by omega
    have HL := Lib.hid (show (valSp n ws).length ≤ 1048576 by have := valSp_length n ws; omega)
    obtain ⟨er, her⟩ : ∃ er, errSp n ws = er := ⟨_, rfl⟩
    have H1 : Hid (∀ W, Below w.heap.size w W → Calls Try.prog 15 #[.int .i64 n, .slice a m c] W fun e w' => ∃ v k d, e = .returned (.tuple #[.slice v k d, .int .i64 er]) ∧ Hid ((valSp n ws).length = k ∧ IRow w' v (valSp n ws) ∧ Below W.heap.size W w')) := Lib.hid (fun W hW => by
      rw [← her]
      refine (I.split n a m c ws W hl (hs.under hW) (by omega) hn hw).mono ?_
      rintro e w' ⟨v, rfl, h1, h2⟩
      obtain ⟨a', c', rfl, h3⟩ := irow_own h1
      exact ⟨a', _, c', rfl, Lib.hid ⟨rfl, h3, h2⟩⟩)
    have H2 : Hid (∀ W, Below w.heap.size w W → Calls Try.prog 16 #[.int .i64 n, .slice a m c] W fun e w' => ∃ v k d, e = .returned (.tuple #[.slice v k d, .int .i64 er]) ∧ Hid ((valSp n ws).length = k ∧ IRow w' v (valSp n ws) ∧ Below W.heap.size W w')) := Lib.hid (fun W hW => by
      rw [← her]
      refine (dsplit n a m c ws W hl (hs.under hW) (by omega)).mono ?_
      rintro e w' ⟨v, rfl, h1, h2⟩
      obtain ⟨a', c', rfl, h3⟩ := irow_own h1
      exact ⟨a', _, c', rfl, Lib.hid ⟨rfl, h3, h2⟩⟩)
    have HS : Hid (∀ W v1 m1 d1 v2 m2 d2, (valSp n ws).length = m1 → IRow W v1 (valSp n ws) → (valSp n ws).length = m2 → IRow W v2 (valSp n ws) → Below w.heap.size w W → Calls Try.prog 17 #[.slice v1 m1 d1, .slice v2 m2 d2] W fun e w' => e = .returned (.bool true) ∧ Hid (Below w.heap.size w w')) := Lib.hid (fun W v1 m1 d1 v2 m2 d2 h1 h2 h3 h4 hW => by
      have := dsame v1 m1 d1 (valSp n ws) v2 m2 d2 (valSp n ws) W h1 h2 (by have := HL.out; omega) h3 h4 (by have := HL.out; omega)
      rw [decide_eq_true rfl] at this
      exact this.mono fun _ _ ⟨e, h⟩ => ⟨e, Lib.hid (below_then hW h)⟩)
    have e1 : (er == er) = true := by simp
    clear hl hs hn hm hw I her HL
    go_enter Try.func4, Try.ntmps4
    go_wp2_with fail
    refine (H1.out w (Below.refl _ _)).mono ?_
    rintro e w1 ⟨v1, m1, d1, rfl, V1⟩
    go_wp2_with fail
    refine (H2.out w1 V1.out.2.2).mono ?_
    rintro e w2 ⟨v2, m2, d2, rfl, V2⟩
    go_wp2_with fail
    refine (HS.out w2 v1 m1 d1 v2 m2 d2 V1.out.1 (V1.out.2.1.under V2.out.2.2) V2.out.1 V2.out.2.1 (below_then V1.out.2.2 V2.out.2.2)).mono ?_
    rintro e w3 ⟨rfl, B3⟩
    go_wp2_with fail
    refine (HW.out w3 B3.out).mono ?_
    rintro e w4 ⟨rfl, B4⟩
    go_wp2_with fail
    go_ret
    exact ⟨rfl, B4.out⟩
end Go.Proofs.Ytaffdddleegfcaa.Fee
