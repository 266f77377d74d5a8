/- The program's List. -/
import Derived.Test.YtfbdkafpfminlaaHeapImM
namespace Go.Proofs.Ytfbdkafpfminlaa.Heap.Im
open Go.RowKit Go.Lib

set_option maxRecDepth 100000 in
set_option maxHeartbeats 4000000 in
theorem list_im {Q : Nat} {F : Nat → Prop} {q : QS} (w : World) (h : HQ w Q F q) (hg : Good q) :
    Calls Try.prog 21 #[ptr Q] w fun e w' => ∃ v, e = .returned v ∧ w'.ownsRow w.heap.size 45 3 v q.l.length (tcells q.l) ∧ Below w.heap.size w w' := by
  have hm0 : 0 < q.most := by have := hg.most; omega
  obtain ⟨l, hq, hh, hp⟩ := h
  have HM : Hid (Calls Try.prog 33 #[ptr Q] w fun e w' => e = .returned (.bool true) ∧ w = w') := Lib.hid (made_im w hq hm0)
  have hln : l.length = q.l.length := hp.length_eq
  have hle := hg.len
  have hmo := hg.most.2
  obtain ⟨lv, ps, b, hv, _⟩ := hq
  obtain ⟨a, c, hlv, _⟩ := hv.slice
  obtain ⟨n, hn⟩ : ∃ n, l.length = n := ⟨_, rfl⟩
  have c2 : w.cell? ⟨Q, 2, none⟩ = some (.slice a n c) := by rw [← hn, ← hlv]; exact hv.c.2.2.1
  have hn1 : (n : Int) ≤ 1048576 := by omega
  have HC : Hid (∀ W i, Below w.heap.size w W → i < n → ∃ g p t, a = some ⟨g, 0, none⟩ ∧ l[i]? = some t ∧ W.cell? ⟨g, i, none⟩ = some (ptr p) ∧ (W.cell? ⟨p, 0, none⟩ = some (.int .i64 t.due) ∧ W.cell? ⟨p, 1, none⟩ = some (.int .i64 t.id) ∧ W.cell? ⟨p, 2, none⟩ = some (.int .i64 t.what))) := Lib.hid (fun W i hW hi => by
    obtain ⟨g, c', p, e, _, a0, _, hb0⟩ := (hv.under hW).at_ (i := i) (by omega)
    rw [hlv] at e
    injection e with e1 _ _
    exact ⟨g, p, _, e1, nthT_at (by omega), a0, tm_at hb0⟩)
  have HA : Hid (∀ W i s (t : Tm), Below w.heap.size w W → i < n → l[i]? = some t → W.ownsRow w.heap.size 45 3 s i (tcells (l.take i)) → ∃ v' w', (Builtin.append_ #[37, 37] 37 #[s, .slice (some ⟨W.heap.size, 0, none⟩) 1 1]).run Try.prog (W.alloc (.cells #[.int .i64 t.due, .int .i64 t.id, .int .i64 t.what] 45)) = .ok v' w' ∧
      Hid (w'.ownsRow w.heap.size 45 3 v' (i + 1) (tcells (l.take (i + 1)))) ∧ Hid (Below w.heap.size w w')) := Lib.hid (fun W i s t hW hi ht ho => by
    have hal := hW.alloc hW.size (.cells #[.int .i64 t.due, .int .i64 t.id, .int .i64 t.what] 45)
    have hlen : (l.take i).length = i := by rw [List.length_take]; omega
    have ho2 : OwnT (W.alloc (.cells #[.int .i64 t.due, .int .i64 t.id, .int .i64 t.what] 45)) w.heap.size s (l.take i) := by
      unfold OwnT
      rw [hlen]
      exact ho.alloc _
    obtain ⟨v', w', hr, h2, h3⟩ := app_tm (W.alloc (.cells #[.int .i64 t.due, .int .i64 t.id, .int .i64 t.what] 45)) w.heap.size s (l.take i) [t] ho2 (some ⟨W.heap.size, 0, none⟩) 1 1 rfl (fun j u hj => ⟨_, rfl, by
      have hblk := heap_alloc_new W (.cells #[.int .i64 t.due, .int .i64 t.id, .int .i64 t.what] 45)
      rw [addr_add, Nat.zero_add]
      refine cell_block (j := j) hblk ?_
      rw [← Array.getElem?_toList]
      exact hj⟩) (by rw [hlen]; simp; omega) hal.size
    have e2 : l.take i ++ [t] = l.take (i + 1) := by rw [List.take_add_one, ht]; rfl
    rw [e2] at h2
    have hlen2 : (l.take (i + 1)).length = i + 1 := by rw [List.length_take]; omega
    unfold OwnT at h2
    rw [hlen2] at h2
    exact ⟨v', w', hr, Lib.hid h2, Lib.hid ⟨h3.os.trans hal.os, h3.tape.trans hal.tape, h3.output.trans hal.output, Nat.le_trans hal.size h3.size, fun k hk => (h3.block k hk).trans (hal.block k hk)⟩⟩)
  have HS : Hid (∀ W s, Below w.heap.size w W → W.ownsRow w.heap.size 45 3 s n (tcells (l.take n)) → Calls Try.prog 36 #[s, .func (.func 37) #[] #[]] W fun e w' => e = .returned (.tuple #[]) ∧ Hid (w'.ownsRow w.heap.size 45 3 s q.l.length (tcells q.l) ∧ Below w.heap.size w w')) := Lib.hid (fun W s hW ho => by
    have e1 : l.take n = l := List.take_of_length_le (by omega)
    rw [e1, ← hn] at ho
    refine (sort_tms W w.heap.size s l q.l ho (by omega) hp hg.sorted hg.uniq).mono ?_
    rintro e w' ⟨rfl, h2, h3⟩
    refine ⟨rfl, Lib.hid ⟨h2, hW.grown h3 hW.size (fun k hk => (ho.lt k hk).1)⟩⟩)
  have H0 : Hid (w.ownsRow w.heap.size 45 3 (.slice none 0 0) 0 (tcells (l.take 0))) := Lib.hid (World.ownsRow_nil _ _ _ _)
  have HN := Lib.hid hn
  clear hv hlv hh hp hg hm0 hln hle hmo hn
  go_enter Try.func21, Try.ntmps21
  go_wp2_with (go_at_call 33; refine HM.out.mono ?_; rintro e w' ⟨rfl, rfl⟩)
  go_loopw [3, 14] (fun s t wr => ∃ i : Nat, t = .int .i64 i ∧ i ≤ n ∧ Hid (wr.ownsRow w.heap.size 45 3 s i (tcells (l.take i))) ∧ Hid (Below w.heap.size w wr)) (fun _ t _ => n - (RowKit.intOf t).toNat)
  case atStart => exact ⟨0, rfl, by omega, H0, Lib.hid (Below.refl _ _)⟩
  case round =>
    obtain ⟨i, rfl, hi, HO, HB⟩ := hrel
    have hi0 : (0 : Int) ≤ (i : Int) := by omega
    by_cases hlt : i < n
    · have hlt2 : (i : Int) < (n : Int) := by omega
      obtain ⟨g, p, t, rfl, hlt3, a0, x0, x1, x2⟩ := HC.out wr i HB.out hlt
      obtain ⟨v', w2, hr, HO2, HB2⟩ := HA.out wr i _ t HB.out hlt hlt3 HO.out
      have HR := Lib.hid hr
      clear hr hlt3
      go_wp2_with (at_builtin; refine walk_run rfl _ _ _ _ rfl _ _ rfl rfl HR.out ?_)
      go_roundw
      case rel => exact ⟨i + 1, by go_num, by omega, HO2, HB2⟩
      case measure => simp [RowKit.intOf]; omega
    · obtain rfl : i = n := by omega
      go_wp2_with fail
      refine (HS.out wr _ HB.out HO.out).mono ?_
      rintro e w3 ⟨rfl, H3⟩
      go_wp2_with fail
      go_ret
      exact ⟨_, rfl, H3.out⟩
end Go.Proofs.Ytfbdkafpfminlaa.Heap.Im
