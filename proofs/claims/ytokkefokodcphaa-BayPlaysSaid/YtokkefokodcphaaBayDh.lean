/- The document's Same of the same lines; its Few. -/
import Derived.Test.YtokkefokodcphaaBayDn
import Derived.Test.YtokkefokodcphaaBayImN
import Derived.Deep.RegionHeld3
namespace Go.Proofs.Ytokkefokodcphaa.Bay
open Go.RowKit Go.Lib IRows

set_option maxRecDepth 100000 in
set_option maxHeartbeats 1000000 in
theorem same_yes {N1 N2 : Nat → Prop} (a1 : Option Addr) (n c1 : Nat) (d1 : List Dn) (a2 : Option Addr) (c2 : Nat) (d2 : List Dn) (w : World) (hl1 : d1.length = n) (h1 : LsAt w N1 a1 d1) (h2 : LsAt w N2 a2 d2) (hp : d1.map Dn.p = d2.map Dn.p) (hn : n ≤ 1000) (hrow : ∀ x ∈ d1, x.r.length ≤ 1000 ∧ x.q.length ≤ 1000) :
    Calls Try.prog 14 #[.slice a1 n c1, .slice a2 n c2] w fun e w' => e = .returned (.bool true) ∧ Below w.heap.size w w' := by
  have hl2 : d2.length = n := by rw [← hl1]; have := congrArg List.length hp; simpa using this.symm
  have HC : Hid (∀ W i, Below w.heap.size w W → i < n → ∃ (g off g' off' : Nat) (x y : Dn), a1 = some ⟨g, off, none⟩ ∧ a2 = some ⟨g', off', none⟩ ∧ (W.cell? ⟨g, off + i * 2, none⟩ = some (.slice x.ra x.r.length x.rc) ∧ W.cell? ⟨g, off + i * 2 + 1, none⟩ = some (.slice x.qa x.q.length x.qc)) ∧ (W.cell? ⟨g', off' + i * 2, none⟩ = some (.slice y.ra y.r.length y.rc) ∧ W.cell? ⟨g', off' + i * 2 + 1, none⟩ = some (.slice y.qa y.q.length y.qc)) ∧ Hid (x.r = y.r ∧ x.q = y.q ∧ x.r.length ≤ 1000 ∧ x.q.length ≤ 1000 ∧ IRow W x.ra x.r ∧ IRow W x.qa x.q ∧ IRow W y.ra y.r ∧ IRow W y.qa y.q)) := Lib.hid (fun W i hW hi => by
    have hx := List.getElem?_eq_getElem (l := d1) (i := i) (by omega)
    have hy := List.getElem?_eq_getElem (l := d2) (i := i) (by omega)
    obtain ⟨g, off, e, _, _, k0, k1⟩ := (h1.under hW).cells i _ hx
    obtain ⟨g', off', e', _, _, k2, k3⟩ := (h2.under hW).cells i _ hy
    have hpp : d1[i].p = d2[i].p := by
      have h3 : (d1.map Dn.p)[i]? = some d1[i].p := by rw [List.getElem?_map, hx]; rfl
      rw [hp, List.getElem?_map, hy] at h3
      exact (Option.some.inj h3).symm
    have hr := hrow _ (List.mem_of_getElem? hx)
    exact ⟨g, off, g', off', _, _, e, e', ⟨k0, k1⟩, ⟨k2, k3⟩, Lib.hid ⟨congrArg Prod.fst hpp, congrArg Prod.snd hpp, hr.1, hr.2, ((h1.under hW).rows i _ hx).1.irow, ((h1.under hW).rows i _ hx).2.irow, ((h2.under hW).rows i _ hy).1.irow, ((h2.under hW).rows i _ hy).2.irow⟩⟩)
  have hn1 : (n : Int) ≤ 1000 := by omega
  have hee : ((n : Int) != (n : Int)) = false := by simp
  clear hl1 h1 h2 hp hn hrow hl2
  go_enter Try.func14, Try.ntmps14
  go_wp2_with fail
  go_loopw [5] (fun s wr => ∃ i : Nat, s = .int .i64 i ∧ i ≤ n ∧ Hid (Below w.heap.size w wr)) (fun s _ => n - (RowKit.intOf s).toNat)
  case atStart => exact ⟨0, rfl, by omega, Lib.hid (Below.refl _ _)⟩
  case round =>
    obtain ⟨i, rfl, hi, HB⟩ := hrel
    have hi0 : (0 : Int) ≤ (i : Int) := by omega
    by_cases hlt : i < n
    · have hlt2 : (i : Int) < (n : Int) := by omega
      have hB0 : Below w.heap.size w wr.drew := below_then HB.out (Below.refl _ wr).drew
      obtain ⟨g, off, g', off', x, y, rfl, rfl, ⟨q0, q1⟩, ⟨q2, q3⟩, HX⟩ := HC.out wr.drew i hB0 hlt
      have HS : Hid (∀ W, Below wr.drew.heap.size wr.drew W → (W.cell? ⟨g, off + i * 2, none⟩ = some (.slice x.ra x.r.length x.rc) ∧ W.cell? ⟨g, off + i * 2 + 1, none⟩ = some (.slice x.qa x.q.length x.qc)) ∧ (W.cell? ⟨g', off' + i * 2, none⟩ = some (.slice y.ra y.r.length y.rc) ∧ W.cell? ⟨g', off' + i * 2 + 1, none⟩ = some (.slice y.qa y.q.length y.qc))) := Lib.hid (fun W hW => by
        have hb : ∀ p v, wr.drew.cell? p = some v → W.cell? p = some v := fun p v h => (hW.cell (World.block_lt_of_cell? wr.drew p h)).trans h
        exact ⟨⟨hb _ _ q0, hb _ _ q1⟩, hb _ _ q2, hb _ _ q3⟩)
      have H1 : Hid (∀ W, Below wr.drew.heap.size wr.drew W → Calls Try.prog 31 #[.slice x.ra x.r.length x.rc, .slice y.ra y.r.length y.rc] W fun e w' => e = .returned (.bool true) ∧ Hid (Below W.heap.size W w')) := Lib.hid (fun W hW => by
        refine (dsame x.ra x.r.length x.rc x.r y.ra y.r.length y.rc y.r W rfl (HX.out.2.2.2.2.1.under hW) (by have := HX.out.2.2.1; omega) rfl (HX.out.2.2.2.2.2.2.1.under hW) (by rw [← HX.out.1]; have := HX.out.2.2.1; omega)).mono ?_
        rintro e w' ⟨rfl, hb⟩
        exact ⟨by rw [decide_eq_true HX.out.1], Lib.hid hb⟩)
      have H2 : Hid (∀ W, Below wr.drew.heap.size wr.drew W → Calls Try.prog 31 #[.slice x.qa x.q.length x.qc, .slice y.qa y.q.length y.qc] W fun e w' => e = .returned (.bool true) ∧ Hid (Below W.heap.size W w')) := Lib.hid (fun W hW => by
        refine (dsame x.qa x.q.length x.qc x.q y.qa y.q.length y.qc y.q W rfl (HX.out.2.2.2.2.2.1.under hW) (by have := HX.out.2.2.2.1; omega) rfl (HX.out.2.2.2.2.2.2.2.under hW) (by rw [← HX.out.2.1]; have := HX.out.2.2.2.1; omega)).mono ?_
        rintro e w' ⟨rfl, hb⟩
        exact ⟨by rw [decide_eq_true HX.out.2.1], Lib.hid hb⟩)
      have HX0 : Hid (Below wr.drew.heap.size wr.drew wr.drew) := Lib.hid (Below.refl _ _)
      have HB0 := Lib.hid hB0
      clear hB0 q0 q1 q2 q3
      go_wp2_with fail
      go_region_held3 (fun W => (W.cell? ⟨g, off + i * 2, none⟩ = some (.slice x.ra x.r.length x.rc) ∧ W.cell? ⟨g, off + i * 2 + 1, none⟩ = some (.slice x.qa x.q.length x.qc)) ∧ (W.cell? ⟨g', off' + i * 2, none⟩ = some (.slice y.ra y.r.length y.rc) ∧ W.cell? ⟨g', off' + i * 2 + 1, none⟩ = some (.slice y.qa y.q.length y.qc)))
        (first | with_reducible exact HS.out _ HX2.out | with_reducible exact HS.out _ HX1.out | with_reducible exact HS.out _ HX0.out)
        (first
          | (go_at_call 31; (with_reducible refine (H2.out _ HX1.out).mono ?_); rintro e w2 ⟨rfl, HB2⟩; have HX2 := Lib.hid (below_then HX1.out HB2.out))
          | (go_at_call 31; (with_reducible refine (H1.out _ HX0.out).mono ?_); rintro e w1 ⟨rfl, HB1⟩; have HX1 := Lib.hid (below_then HX0.out HB1.out)))
      all_goals
        go_wp2_with fail
        go_roundw
        case rel => exact ⟨i + 1, by go_num, by omega, Lib.hid (below_then HB0.out HX2.out)⟩
        case measure => simp [RowKit.intOf]; omega
    · obtain rfl : i = n := by omega
      go_wp2_with fail
      go_ret
      exact ⟨rfl, HB.out⟩
def FewA (v : Value) (ln dn : Nat) (ds : List Dn) : Prop := ∃ r, v = .bool r ∧ (r = true → ln ≤ 12 ∧ dn ≤ 24 ∧ ∀ x ∈ ds, x.r.length ≤ 12 ∧ x.q.length ≤ 12)
set_option maxRecDepth 100000 in
set_option maxHeartbeats 1000000 in
theorem few_im {N : Nat → Prop} (la : Option Addr) (ln lc : Nat) (da : Option Addr) (dn dc : Nat) (ds : List Dn) (w : World) (hl : ds.length = dn) (hd : LsAt w N da ds) (hln : (ln : Int) ≤ 9223372036854775807) (hdn : (dn : Int) ≤ 9223372036854775807) :
    Calls Try.prog 7 #[.slice la ln lc, .slice da dn dc] w fun e w' => ∃ v, e = .returned v ∧ w = w' ∧ Hid (FewA v ln dn ds) := by
  have HC : Hid (∀ i, i < dn → ∃ g off x, da = some ⟨g, off, none⟩ ∧ Hid (ds[i]? = some x) ∧ (w.cell? ⟨g, off + i * 2, none⟩ = some (.slice x.ra x.r.length x.rc) ∧ w.cell? ⟨g, off + i * 2 + 1, none⟩ = some (.slice x.qa x.q.length x.qc))) := Lib.hid (fun i hi => by
    have hx := List.getElem?_eq_getElem (l := ds) (i := i) (by omega)
    obtain ⟨g, off, e, _, _, k0, k1⟩ := hd.cells i _ hx
    exact ⟨g, off, _, e, Lib.hid hx, ⟨k0, k1⟩⟩)
  have HL := Lib.hid hl
  clear hl hd
  go_enter Try.func7, Try.ntmps7
  go_wp2_with fail
  go_loopw [5] (fun s wr => ∃ i : Nat, s = .int .i64 i ∧ i ≤ 24 ∧ w = wr ∧ Hid (∀ x ∈ ds.take i, x.r.length ≤ 12 ∧ x.q.length ≤ 12)) (fun s _ => 24 - (RowKit.intOf s).toNat)
  case atStart => exact ⟨0, rfl, by omega, rfl, Lib.hid (fun x hx => by simp at hx)⟩
  case round =>
    obtain ⟨i, rfl, hi, rfl, HI⟩ := hrel
    have hi0 : (0 : Int) ≤ (i : Int) := by omega
    by_cases hlt : i < dn
    · have hlt2 : (i : Int) < (dn : Int) := by omega
      by_cases h24 : i < 24
      · have h24i : (i : Int) < 24 := by omega
        obtain ⟨g, off, x, rfl, hx, q0, q1⟩ := HC.out i hlt
        have hmem : ∀ z ∈ ds.take (i + 1), z ∈ ds.take i ∨ z = x := fun z hz => by
          rw [List.take_add_one, hx.out] at hz
          rcases List.mem_append.1 hz with hz | hz
          · exact .inl hz
          · exact .inr (by simpa using hz)
        obtain ⟨rn, hrn⟩ : ∃ rn, x.r.length = rn := ⟨_, rfl⟩
        obtain ⟨qn, hqn⟩ : ∃ qn, x.q.length = qn := ⟨_, rfl⟩
        rw [hrn] at q0
        rw [hqn] at q1
        by_cases c1 : rn ≤ 12
        · have d1 : decide (12 < (rn : Int)) = false := decide_eq_false (by omega)
          by_cases c2 : qn ≤ 12
          · have d2 : decide (12 < (qn : Int)) = false := decide_eq_false (by omega)
            have HI2 : Hid (∀ x ∈ ds.take (i + 1), x.r.length ≤ 12 ∧ x.q.length ≤ 12) := Lib.hid (fun z hz => by
              rcases hmem z hz with h1 | rfl
              · exact HI.out z h1
              · exact ⟨by omega, by omega⟩)
            clear c1 c2 hmem hrn hqn
            go_wp2_with fail
            go_roundw
            case rel => exact ⟨i + 1, by go_num, by omega, by first | rfl | trivial, HI2⟩
            case measure => simp [RowKit.intOf]; omega
          · have d2 : decide (12 < (qn : Int)) = true := decide_eq_true (by omega)
            clear c1 c2 hmem hrn hqn
            go_wp2_with fail
            go_ret
            exact ⟨_, rfl, rfl, Lib.hid ⟨false, rfl, fun h => by cases h⟩⟩
        · have d1 : decide (12 < (rn : Int)) = true := decide_eq_true (by omega)
          clear c1 hmem hrn hqn
          go_wp2_with fail
          go_ret
          exact ⟨_, rfl, rfl, Lib.hid ⟨false, rfl, fun h => by cases h⟩⟩
      · obtain rfl : i = 24 := by omega
        have hd24 : ¬ ((dn : Int) ≤ 24) := by omega
        have hd24b : decide ((dn : Int) ≤ 24) = false := decide_eq_false hd24
        obtain ⟨r, hr⟩ : ∃ r, decide ((ln : Int) ≤ 12) = r := ⟨_, rfl⟩
        clear hlt
        cases r with
        | true =>
          go_wp2_with fail
          go_ret
          exact ⟨_, rfl, rfl, Lib.hid ⟨false, rfl, fun h => by cases h⟩⟩
        | false =>
          go_wp2_with fail
          go_ret
          exact ⟨_, rfl, rfl, Lib.hid ⟨false, rfl, fun h => by cases h⟩⟩
    · have hge : dn ≤ i := by omega
      have d24 : decide ((dn : Int) ≤ 24) = true := decide_eq_true (by omega)
      have hnl : ¬ ((i : Int) < (dn : Int)) := by omega
      have HR : Hid (ln ≤ 12 → ln ≤ 12 ∧ dn ≤ 24 ∧ ∀ x ∈ ds, x.r.length ≤ 12 ∧ x.q.length ≤ 12) := Lib.hid (fun h => ⟨h, by omega, by
        have := HI.out
        rwa [List.take_of_length_le (by rw [HL.out]; exact hge)] at this⟩)
      by_cases c : ln ≤ 12
      · have dl : decide ((ln : Int) ≤ 12) = true := decide_eq_true (by omega)
        have HF := Lib.hid (HR.out c)
        clear c
        go_wp2_with fail
        go_ret
        exact ⟨_, rfl, rfl, Lib.hid ⟨true, rfl, fun _ => HF.out⟩⟩
      · have dl : decide ((ln : Int) ≤ 12) = false := decide_eq_false (by omega)
        clear c
        go_wp2_with fail
        go_ret
        exact ⟨_, rfl, rfl, Lib.hid ⟨false, rfl, fun h => by cases h⟩⟩
end Go.Proofs.Ytokkefokodcphaa.Bay
