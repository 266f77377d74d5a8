/- The walk over all records' bytes. -/
import Derived.Test.YtajmdcbnejkfgaaFrameG
import Derived.Test.YtajmdcbnejkfgaaBuilder
import Derived.Test.YtajmdcbnejkfgaaFew
namespace Go.Proofs.Ytajmdcbnejkfgaa.Frame
open Go.RowKit Go.Lib

def Fit (T : Nat → ByteArray) (n : Nat) : Prop := ∀ j, j < n → fits (T j).size
open Classical in
noncomputable def allS (T : Nat → ByteArray) (n : Nat) : ByteArray := if Fit T n then allB (texts T n) else ⟨#[]⟩
open Classical in
noncomputable def allE (T : Nat → ByteArray) (n : Nat) : Int := if Fit T n then 0 else 1
noncomputable abbrev allV (T : Nat → ByteArray) (n : Nat) : Value := .tuple #[.string (allS T n), .int .i64 (allE T n)]
theorem allS_yes {T : Nat → ByteArray} {n : Nat} (h : Fit T n) : allS T n = allB (texts T n) := if_pos h
theorem allE_yes {T : Nat → ByteArray} {n : Nat} (h : Fit T n) : allE T n = 0 := if_pos h
theorem allS_no {T : Nat → ByteArray} {n : Nat} (h : ¬ Fit T n) : allS T n = ⟨#[]⟩ := if_neg h
theorem allE_no {T : Nat → ByteArray} {n : Nat} (h : ¬ Fit T n) : allE T n = 1 := if_neg h
theorem fit_succ {T : Nat → ByteArray} {k : Nat} (h : Fit T k) (hk : fits (T k).size) : Fit T (k + 1) := fun j hj => by
  rcases Nat.lt_or_ge j k with h' | h'
  · exact h j h'
  · obtain rfl : j = k := by omega
    exact hk
theorem all_room {T : Nat → ByteArray} {k : Nat} (h : Fit T k) : (allB (texts T k)).size ≤ 4104 * k := all_le T 4096 k (fun j hj => (h j hj).2)
set_option maxRecDepth 100000 in
set_option maxHeartbeats 1000000 in
theorem all_any (a : Option Addr) (n cap : Nat) (T : Nat → ByteArray) (w : World) (hc : Strs w a n T) (hm : ∀ j, j < n → (T j).size ≤ maxLen) (hn : n ≤ 1048576) :
    Calls Try.prog 11 #[.slice a n cap] w fun e w' => e = .returned (allV T n) ∧ Below w.heap.size w w' := by
  have HC := Lib.hid hc; have HM := Lib.hid hm
  clear hc hm
  go_enter Try.func11, Try.ntmps11
  go_wp2_with fail
  go_loopw [11] (fun i wr => ∃ k : Nat, k ≤ n ∧ i = .int .i64 k ∧ Hid (Fit T k) ∧ IsB w.heap.size w.heap.size (allB (texts T k)).data.toList wr ∧ Below w.heap.size w wr) (fun i _ => n - (RowKit.intOf i).toNat)
  case atStart => exact ⟨0, by omega, rfl, Lib.hid (fun j hj => by omega), made_builder w, (Below.refl _ w).alloc (Nat.le_refl _) _⟩
  case round =>
    obtain ⟨k, hk, rfl, HF, hib, hbel⟩ := hrel
    by_cases hlt : k < n
    · obtain ⟨b, off, rfl, hlb, hcl⟩ := HC.out k hlt
      have hc1 : wr.cell? ⟨b, off + k, none⟩ = some (.string (T k)) := ((bcell hbel).1 b _ hlb).trans hcl
      have HIB := Lib.hid hib; have HBel := Lib.hid hbel
      clear hib hbel hcl
      go_wp2_with fail
      refine (put_any (T k) _ (HM.out k hlt)).mono ?_
      rintro e w1 ⟨rfl, hb1⟩
      have hib1 := builder_kept HIB.out hb1
      have hbel1 := below_then HBel.out hb1
      clear HIB HBel hb1 hc1
      by_cases hf : fits (T k).size
      · rw [putV_yes hf]
        have hF2 := fit_succ HF.out hf
        have hroom := all_room HF.out
        have hrz := rec_size (T k)
        have hlist : (allB (texts T k)).data.toList ++ (recB (T k)).data.toList = (allB (texts T (k + 1))).data.toList := by
          rw [texts_succ, all_snoc, ByteArray.data_append, Array.toList_append]
        obtain ⟨f1, f2⟩ := hf
        have hw := write_any w.heap.size w.heap.size _ (recB (T k)) w1 hib1 (by rw [size_list]; omega) hbel1.size
        rw [hlist] at hw
        have HW := Lib.hid hw; have HF2 := Lib.hid hF2; have HBel := Lib.hid hbel1
        clear hw hF2 hroom hrz hlist hib1 HF hbel1
        go_wp2_with fail
        refine HW.out.mono ?_
        rintro e w2 ⟨rfl, hib2, hb2⟩
        have hbel2 := HBel.out.trans hb2
        go_wp2_with fail
        go_roundw
        case rel => exact ⟨k + 1, by omega, by go_num, HF2, hib2, hbel2⟩
        case measure => simp [RowKit.intOf]; omega
      · rw [putV_no hf]
        have hno : ¬ Fit T n := fun h => hf (h k hlt)
        have h1 := allS_no hno
        have h2 := allE_no hno
        have H1 := Lib.hid h1; have H2 := Lib.hid h2
        clear h1 h2 hno
        go_wp2_with fail
        go_ret2
        exact ⟨ret_val (by unfold allV; rw [H1.out, H2.out]; rfl), hbel1⟩
    · obtain rfl : k = n := by omega
      have h1 := allS_yes HF.out
      have h2 := allE_yes HF.out
      have H1 := Lib.hid h1; have H2 := Lib.hid h2
      have HS := Lib.hid (said_any w.heap.size w.heap.size _ wr hib hbel.size)
      clear h1 h2 hib
      go_wp2_with fail
      refine HS.out.mono ?_
      rintro e w2 ⟨rfl, hb2⟩
      go_wp2_with fail
      go_ret2
      exact ⟨ret_val (by unfold allV; rw [H1.out, H2.out]; rfl), hbel.trans hb2⟩
end Go.Proofs.Ytajmdcbnejkfgaa.Frame
