/- The program's Load. -/
import Derived.Test.YtfebaiefoonncaaDraImB
import Derived.Test.YtfebaiefoonncaaDraEls
import Derived.Deep.RegionHeld3
namespace Go.Proofs.Ytfebaiefoonncaa.Draft
open Go.RowKit Go.Lib

theorem ld_good {z : Int} : ∀ {l out r : List Dr}, ld z out l = some r → Rise out → (∀ d ∈ out, Ok d ∧ 1 ≤ d.id ∧ d.id ≤ z) → (Rise r ∧ ∀ d ∈ r, Ok d ∧ 1 ≤ d.id ∧ d.id ≤ z) ∧ r.length = out.length + l.length
  | [], out, r, h, h1, h2 => by
    simp [ld] at h
    subst h
    exact ⟨⟨h1, h2⟩, rfl⟩
  | d :: l, out, r, h, h1, h2 => by
    unfold ld at h
    by_cases e : DrOk out z d
    · rw [if_pos e] at h
      have := ld_good h (rise_ins h1 d) (fun x hx => by
        rcases ins_mem hx with rfl | hx
        · exact ⟨e.1, e.2.1⟩
        · exact h2 x hx)
      refine ⟨this.1, ?_⟩
      have hl := length_ins h1 d
      rw [e.2.2] at hl
      rw [this.2, hl]
      show (if false = true then out.length else out.length + 1) + l.length = out.length + (l.length + 1)
      rw [if_neg (by decide)]
      omega
    · rw [if_neg e] at h
      cases h
theorem loadE_zero {l : List Dr} {next : Int} (h : loadE l next = 0) : ((1 ≤ next ∧ next ≤ mt) ∧ l.length ≤ 64) ∧ ld (next - 1) [] l = some (loadL l next) := by
  unfold loadE at h
  by_cases e : (1 ≤ next ∧ next ≤ mt) ∧ l.length ≤ 64
  · rw [if_pos e] at h
    refine ⟨e, ?_⟩
    unfold loadL
    cases hl : ld (next - 1) [] l with
    | none => rw [hl] at h; cases h
    | some r => rfl
  · rw [if_neg e] at h
    cases h
theorem good_load {l : List Dr} {next : Int} (h : loadE l next = 0) : Good (loadL l next) (next - 1) ∧ (loadL l next).length = l.length := by
  obtain ⟨⟨⟨h1, h2⟩, h3⟩, h4⟩ := loadE_zero h
  obtain ⟨⟨g1, g2⟩, g3⟩ := ld_good h4 List.Pairwise.nil (fun d hd => by cases hd)
  rw [List.length_nil, Nat.zero_add] at g3
  exact ⟨⟨g1, g2, by omega, by omega, by omega⟩, g3⟩
/-- What stands ahead of each draft. -/
structure Fill (w W : World) (Q : Nat) (z : Int) (l : List Dr) (i : Nat) : Prop where
  below : Below w.heap.size w W
  new : w.heap.size ≤ Q
  pt : ∃ R out, DP W Q R out z ∧ ld z [] l = ld z out (l.drop i) ∧ Rise out ∧ out.length = i ∧ ∀ k, R k → w.heap.size ≤ k
theorem Fill.under {w W W' : World} {Q : Nat} {z : Int} {l : List Dr} {i : Nat} (h : Fill w W Q z l i) (hb : Below W.heap.size W W') : Fill w W' Q z l i := by
  obtain ⟨R, out, h1, h2⟩ := h.pt
  exact ⟨below_then h.below hb, h.new, R, out, h1.under hb, h2⟩
theorem fill_no {w W : World} {Q : Nat} {z : Int} {l : List Dr} {i : Nat} {d : Dr} (h : Fill w W Q z l i) (hd : l[i]? = some d) (hn : ¬ (Ok d ∧ 1 ≤ d.id ∧ d.id ≤ z)) : ld z [] l = none := by
  obtain ⟨R, out, _, h2, _⟩ := h.pt
  rw [h2]
  exact ld_no hd fun e => hn ⟨e.1, e.2.1⟩
/-- One draft more, if it may be: it is new, and put in, or its number is there already. -/
theorem fill_one {w W : World} {Q : Nat} {z : Int} {l : List Dr} {i : Nat} {d : Dr} (h : Fill w W Q z l i) (hd : l[i]? = some d) (hi : i < 1000) (hok : Ok d ∧ 1 ≤ d.id ∧ d.id ≤ z) :
    ∃ b : Bool, (b = true ∨ (b = false ∧ ld z [] l = none)) ∧ ∀ W1, Below W.heap.size W W1 → Calls Try.prog 22 #[ptr Q, elV d] W1 fun e w' => e = .returned (.bool b) ∧ (∀ k, k < W1.heap.size → k ≠ Q → w'.heap[k]? = W1.heap[k]?) ∧ Below w.heap.size w w' ∧ (b = true → Fill w w' Q z l (i + 1)) := by
  obtain ⟨R, out, g1, g2, g3, g4, g5⟩ := h.pt
  cases hf : find out d.id with
  | some d' =>
    refine ⟨false, .inr ⟨rfl, ?_⟩, fun W1 hb => ?_⟩
    · rw [g2, ld_no hd (fun e => by have := e.2.2; rw [hf] at this; cases this)]
    · refine (put_is d W1 (g1.under hb) g3 (by omega)).mono ?_
      rintro e w' ⟨rfl, R', _, q⟩
      exact ⟨by rw [hf]; rfl, fun k h1 h2 => q.grown.block k h1 (fun e => h2 (Option.some.inj e)), below_of_only (below_then h.below hb) h.new q.grown, fun e => by cases e⟩
  | none =>
    refine ⟨true, .inl rfl, fun W1 hb => ?_⟩
    refine (put_is d W1 (g1.under hb) g3 (by omega)).mono ?_
    rintro e w' ⟨rfl, R', p, q⟩
    have hb2 := below_of_only (below_then h.below hb) h.new q.grown
    refine ⟨by rw [hf]; rfl, fun k h1 h2 => q.grown.block k h1 (fun e => h2 (Option.some.inj e)), hb2, fun _ => ⟨hb2, h.new, R', ins out d, p, ?_, rise_ins g3 d, ?_, fun k hk => ?_⟩⟩
    · rw [g2, ld_ok hd ⟨hok.1, hok.2, hf⟩]
    · rw [length_ins g3, hf, g4]
      rfl
    · rcases q.more k hk with h1 | h1
      · exact g5 k h1
      · exact Nat.le_trans (Nat.le_trans h.below.size hb.size) h1
set_option maxRecDepth 100000 in
set_option maxHeartbeats 8000000 in
theorem load_im (a : Option Addr) (n c : Nat) (l : List Dr) (next : Int) (w : World) (hs : Els w a l) (hl : l.length = n) (hn : n ≤ 1000) :
    Calls Try.prog 7 #[.slice a n c, .int .i64 next] w fun e w' => ∃ p, e = .returned (.tuple #[.pointer p, .int .i64 (loadE l next)]) ∧ Hid (Below w.heap.size w w' ∧ (loadE l next ≠ 0 → p = none) ∧ (loadE l next = 0 → ∃ Q F, p = some ⟨Q, 0, none⟩ ∧ DP w' Q F (loadL l next) (next - 1) ∧ w.heap.size ≤ Q ∧ ∀ k, F k → w.heap.size ≤ k)) := by
  obtain ⟨q, hq⟩ : ∃ q, loadE l next = q := ⟨_, rfl⟩
  obtain ⟨b0, hb0⟩ : ∃ b, decide (1 ≤ next ∧ next ≤ mt) = b := ⟨_, rfl⟩
  have H0 := in_as hb0
  have HBAD : Hid (∀ W, Below w.heap.size w W → q = 1 → ∃ p : Option Addr, (Ending.returned (.tuple #[.pointer none, .int .i64 1]) : Ending) = .returned (.tuple #[.pointer p, .int .i64 q]) ∧ Hid (Below w.heap.size w W ∧ (q ≠ 0 → p = none) ∧ (q = 0 → ∃ Q F, p = some ⟨Q, 0, none⟩ ∧ DP W Q F (loadL l next) (next - 1) ∧ w.heap.size ≤ Q ∧ ∀ k, F k → w.heap.size ≤ k))) := Lib.hid fun W hW e => by
    subst e
    exact ⟨none, rfl, Lib.hid ⟨hW, fun _ => rfl, fun e => by cases e⟩⟩
  rw [hq]
  cases b0 with
  | false =>
    have HE : Hid (q = 1) := Lib.hid (by rw [← hq]; unfold loadE; rw [if_neg fun e => of_decide_eq_false hb0 e.1])
    clear hs hl hn hq hb0
    go_enter Try.func7, Try.ntmps7
    go_wp2_with fail
    refine (H0.out _).mono ?_
    rintro e w' ⟨rfl, rfl⟩
    go_wp2_with fail
    go_ret2
    exact HBAD.out _ (Below.refl _ _) HE.out
  | true =>
    have hnx := of_decide_eq_true hb0
    by_cases h64 : 64 < n
    · have HE : Hid (q = 1) := Lib.hid (by rw [← hq]; unfold loadE; rw [if_neg fun e => by have := e.2; omega])
      have d64 : decide ((64 : Int) < (n : Int)) = true := decide_eq_true (by omega)
      have h64' : (64 : Int) < (n : Int) := by omega
      clear hs hl hn hq hb0 hnx h64
      go_enter Try.func7, Try.ntmps7
      go_wp2_with fail
      refine (H0.out _).mono ?_
      rintro e w' ⟨rfl, rfl⟩
      go_wp2_with fail
      go_ret2
      exact HBAD.out _ (Below.refl _ _) HE.out
    have d64 : decide ((64 : Int) < (n : Int)) = false := decide_eq_false (by omega)
    have h64' : ¬ (64 : Int) < (n : Int) := by omega
    obtain ⟨z, hz⟩ : ∃ z, next - 1 = z := ⟨_, rfl⟩
    have hnx2 : 1 ≤ next ∧ next ≤ 1099511627776 := hnx
    have wz : IntKind.i64.wrap (next - 1) = z := by rw [hz]; exact IntWalk.i64_in _ (by omega)
    have HQ : Hid (q = match ld z [] l with | none => 1 | some _ => 0) := Lib.hid (by rw [← hq]; unfold loadE; rw [if_pos ⟨hnx, by omega⟩, hz]; rfl)
    rw [hz] at HBAD ⊢
    obtain ⟨Q, hQ⟩ : ∃ Q, w.heap.size = Q := ⟨_, rfl⟩
    obtain ⟨X, hX⟩ : ∃ X, w.alloc (.cells #[.slice none 0 0, .slice none 0 0, .int .i64 z] 47) = X := ⟨_, rfl⟩
    have HF0 : Hid (Fill w X Q z l 0) := Lib.hid (by
      rw [← hX, ← hQ]
      refine ⟨(Below.refl _ w).alloc (Nat.le_refl _) _, Nat.le_refl _, fun k => k = w.heap.size, [], ?_, rfl, List.Pairwise.nil, rfl, fun k hk => by rw [hk]; exact Nat.le_refl _⟩
      refine ⟨.slice none 0 0, .slice none 0 0, ⟨⟨_, heap_alloc_new w _⟩, World.ownsRow_nil _ _ _ _, World.ownsRow_nil _ _ _ _, rfl, fun q hq => (by cases hq), fun q hq => (by cases hq), fun k hk => ?_⟩⟩
      rw [hk]
      simp)
    have HS := Lib.hid hs; have HN := Lib.hid hl
    have hn64 : n ≤ 64 := by omega
    have HLL : Hid (loadL l next = (ld z [] l).getD []) := Lib.hid (by unfold loadL; rw [hz])
    clear hs hl hn hq hb0 hnx hnx2 h64 hz
    go_enter Try.func7, Try.ntmps7
    go_wp2_with fail
    refine (H0.out _).mono ?_
    rintro e w' ⟨rfl, rfl⟩
    go_wp2_with fail
    clear hX hQ d64 h64'
    go_loopw [24] (fun u wr => ∃ i : Nat, u = .int .i64 (i : Int) ∧ i ≤ n ∧ Hid (Fill w wr Q z l i)) (fun u _ => n - (RowKit.intOf u).toNat)
    case atStart => exact ⟨0, rfl, by omega, HF0⟩
    case round =>
      clear HF0
      obtain ⟨i, rfl, hi, HF⟩ := hrel
      have hi0 : (0 : Int) ≤ (i : Int) := by omega
      by_cases hlt : i < n
      · have hlt2 : (i : Int) < (n : Int) := by omega
        obtain ⟨W0, rfl⟩ : ∃ W0, W0 = wr := ⟨_, rfl⟩
        obtain ⟨t, ht⟩ : ∃ t, l[i]? = some t := ⟨l[i]'(by have := HN.out; omega), List.getElem?_eq_getElem (by have := HN.out; omega)⟩
        obtain ⟨g, off, rfl, k0, k1, k2, k3, k4, k5, k6, k7, k8⟩ := HS.out.at HF.out.below ht
        obtain ⟨V, hV⟩ : ∃ V, W0.heap.size = V := ⟨_, rfl⟩
        obtain ⟨Y, hY⟩ : ∃ Y, W0.alloc (.cells #[.int .i64 t.id, .int .i64 t.owner, .int .i64 t.div, .int .i64 t.place, .int .i64 t.blue, .int .i64 t.me, .int .i64 t.te, .int .i64 t.runs, .int .i64 t.busy] 36) = Y := ⟨_, rfl⟩
        have hbY : Below W0.heap.size W0 Y := by rw [← hY]; exact (Below.refl _ W0).alloc (Nat.le_refl _) _
        have hVY : Y.heap[V]? = some (.cells t.cells 36 (0, 0)) := by rw [← hY, ← hV]; exact heap_alloc_new W0 _
        have HVY : Hid (∀ W, Below Y.heap.size Y W → W.cell? ⟨V, 0, none⟩ = some (.int .i64 t.id) ∧ W.cell? ⟨V, 1, none⟩ = some (.int .i64 t.owner) ∧ W.cell? ⟨V, 2, none⟩ = some (.int .i64 t.div) ∧ W.cell? ⟨V, 3, none⟩ = some (.int .i64 t.place) ∧ W.cell? ⟨V, 4, none⟩ = some (.int .i64 t.blue) ∧ W.cell? ⟨V, 5, none⟩ = some (.int .i64 t.me) ∧ W.cell? ⟨V, 6, none⟩ = some (.int .i64 t.te) ∧ W.cell? ⟨V, 7, none⟩ = some (.int .i64 t.runs) ∧ W.cell? ⟨V, 8, none⟩ = some (.int .i64 t.busy)) := Lib.hid fun W hW => el_at ((hW.block _ (Array.getElem?_eq_some_iff.1 hVY).1).trans hVY)
        have HFY := Lib.hid (HF.out.under hbY)
        have hQV : Q < V := by
          obtain ⟨R, out, h1, _⟩ := HF.out.pt
          rw [← hV]
          exact h1.lt Q h1.self
        have HVQ : Hid (Y.heap[V]? = some (.cells t.cells 36 (0, 0)) ∧ V ≠ Q) := Lib.hid ⟨hVY, by omega⟩
        have hbd : Hid (∀ W, Below Y.heap.size Y W → Below w.heap.size w W) := Lib.hid fun W hW => below_then HFY.out.below hW
        obtain ⟨bm, hbm⟩ : ∃ b, decide (Ok t) = b := ⟨_, rfl⟩
        obtain ⟨bi, hbi⟩ : ∃ b, decide (1 ≤ t.id ∧ t.id ≤ z) = b := ⟨_, rfl⟩
        have HM := mayBe_as hbm; have HI := in_as hbi
        have HT := Lib.hid ht
        cases bm with
        | false =>
          have HE : Hid (q = 1) := Lib.hid (by rw [HQ.out, fill_no HF.out ht fun e => of_decide_eq_false hbm e.1])
          clear hbY hVY hQV hbm hbi ht
          go_wp2_with fail
          clear hY hV k0 k1 k2 k3 k4 k5 k6 k7 k8
          refine wp_region_held_drew (S := fun W => W.cell? ⟨V, 0, none⟩ = some (.int .i64 t.id) ∧ W.cell? ⟨V, 1, none⟩ = some (.int .i64 t.owner) ∧ W.cell? ⟨V, 2, none⟩ = some (.int .i64 t.div) ∧ W.cell? ⟨V, 3, none⟩ = some (.int .i64 t.place) ∧ W.cell? ⟨V, 4, none⟩ = some (.int .i64 t.blue) ∧ W.cell? ⟨V, 5, none⟩ = some (.int .i64 t.me) ∧ W.cell? ⟨V, 6, none⟩ = some (.int .i64 t.te) ∧ W.cell? ⟨V, 7, none⟩ = some (.int .i64 t.runs) ∧ W.cell? ⟨V, 8, none⟩ = some (.int .i64 t.busy)) (by kernel_rfl) (HVY.out _ (Below.refl _ Y).drew) (fun hHeld => ?_)
          refine wpAnyH_take (i := 0) (v := .agg #[.int .i64 t.id, .int .i64 t.owner, .int .i64 t.div, .int .i64 t.place, .int .i64 t.blue, .int .i64 t.me, .int .i64 t.te, .int .i64 t.runs, .int .i64 t.busy]) rfl (by kernel_rfl) (by kernel_rfl) (by kernel_rfl) (fun _ _ _ h => h) (Or.inl ⟨by rfl, fun V hSV => ?_⟩) (by assumption) ?_
          · obtain ⟨x0, x1, x2, x3, x4, x5, x6, x7, x8⟩ := hSV
            go_simp
          (try simp only [Act.put, List.getElem_toArray, List.getElem_cons_zero, List.setIfInBounds_toArray, List.set_cons_zero, List.set_cons_succ])
          refine wpAnyH_ready (rs := [1]) (by kernel_rfl) (by simp) ?_
          refine AllReadyH.cons (o := _) rfl (fun K hK => ?_) AllReadyH.nil
          go_simp
          refine (HM.out Y.drew).mono ?_
          rintro e w5 ⟨rfl, hb5⟩
          (try dsimp only)
          refine hK.out _ _ (HVY.out _ (below_then (Below.refl _ Y).drew hb5)) (fun hHeld => ?_)
          clear hK K
          (try simp only [Act.put, List.getElem_toArray, List.getElem_cons_succ, List.getElem_cons_zero, List.setIfInBounds_toArray, List.set_cons_zero, List.set_cons_succ])
          refine wpAnyH_take (i := 2) (v := .bool true) rfl (by kernel_rfl) (by kernel_rfl) (by kernel_rfl) (fun _ _ _ h => h) (Or.inl ⟨by rfl, fun V hSV => ?_⟩) (by assumption) ?_
          · obtain ⟨x0, x1, x2, x3, x4, x5, x6, x7, x8⟩ := hSV
            go_simp
          (try simp only [Act.put, List.getElem_toArray, List.getElem_cons_succ, List.getElem_cons_zero, List.setIfInBounds_toArray, List.set_cons_zero, List.set_cons_succ])
          refine wpAnyH_take (i := 3) (v := .bool true) rfl (by kernel_rfl) (by kernel_rfl) (by kernel_rfl) (fun _ _ _ h => h) (Or.inl ⟨by rfl, fun V hSV => ?_⟩) (by assumption) ?_
          · obtain ⟨x0, x1, x2, x3, x4, x5, x6, x7, x8⟩ := hSV
            go_simp
          (try simp only [Act.put, List.getElem_toArray, List.getElem_cons_succ, List.getElem_cons_zero, List.setIfInBounds_toArray, List.set_cons_zero, List.set_cons_succ])
          refine wpAnyH_take (i := 4) (v := undef) rfl (by kernel_rfl) (by kernel_rfl) (by kernel_rfl) (fun _ _ _ h => h) (Or.inr ⟨by kernel_rfl, rfl⟩) (by assumption) ?_
          (try simp only [Act.put, List.getElem_toArray, List.getElem_cons_succ, List.getElem_cons_zero, List.setIfInBounds_toArray, List.set_cons_zero, List.set_cons_succ])
          refine wpAnyH_take (i := 5) (v := undef) rfl (by kernel_rfl) (by kernel_rfl) (by kernel_rfl) (fun _ _ _ h => h) (Or.inr ⟨by kernel_rfl, rfl⟩) (by assumption) ?_
          (try simp only [Act.put, List.getElem_toArray, List.getElem_cons_succ, List.getElem_cons_zero, List.setIfInBounds_toArray, List.set_cons_zero, List.set_cons_succ])
          refine wpAnyH_take (i := 6) (v := undef) rfl (by kernel_rfl) (by kernel_rfl) (by kernel_rfl) (fun _ _ _ h => h) (Or.inr ⟨by kernel_rfl, rfl⟩) (by assumption) ?_
          (try simp only [Act.put, List.getElem_toArray, List.getElem_cons_succ, List.getElem_cons_zero, List.setIfInBounds_toArray, List.set_cons_zero, List.set_cons_succ])
          refine wpAnyH_take (i := 7) (v := undef) rfl (by kernel_rfl) (by kernel_rfl) (by kernel_rfl) (fun _ _ _ h => h) (Or.inr ⟨by kernel_rfl, rfl⟩) (by assumption) ?_
          (try simp only [Act.put, List.getElem_toArray, List.getElem_cons_succ, List.getElem_cons_zero, List.setIfInBounds_toArray, List.set_cons_zero, List.set_cons_succ])
          refine wpAnyH_take (i := 8) (v := undef) rfl (by kernel_rfl) (by kernel_rfl) (by kernel_rfl) (fun _ _ _ h => h) (Or.inr ⟨by kernel_rfl, rfl⟩) (by assumption) ?_
          (try simp only [Act.put, List.getElem_toArray, List.getElem_cons_succ, List.getElem_cons_zero, List.setIfInBounds_toArray, List.set_cons_zero, List.set_cons_succ])
          refine wpAnyH_take (i := 9) (v := undef) rfl (by kernel_rfl) (by kernel_rfl) (by kernel_rfl) (fun _ _ _ h => h) (Or.inr ⟨by kernel_rfl, rfl⟩) (by assumption) ?_
          (try simp only [Act.put, List.getElem_toArray, List.getElem_cons_succ, List.getElem_cons_zero, List.setIfInBounds_toArray, List.set_cons_zero, List.set_cons_succ])
          refine wpAnyH_take (i := 10) (v := .bool true) rfl (by kernel_rfl) (by kernel_rfl) (by kernel_rfl) (fun _ _ _ h => h) (Or.inl ⟨by rfl, fun V hSV => ?_⟩) (by assumption) ?_
          · obtain ⟨x0, x1, x2, x3, x4, x5, x6, x7, x8⟩ := hSV
            go_simp
          (try simp only [Act.put, List.getElem_toArray, List.getElem_cons_succ, List.getElem_cons_zero, List.setIfInBounds_toArray, List.set_cons_zero, List.set_cons_succ])
          refine wpAnyH_take (i := 11) (v := .bool true) rfl (by kernel_rfl) (by kernel_rfl) (by kernel_rfl) (fun _ _ _ h => h) (Or.inl ⟨by rfl, fun V hSV => ?_⟩) (by assumption) ?_
          · obtain ⟨x0, x1, x2, x3, x4, x5, x6, x7, x8⟩ := hSV
            go_simp
          (try simp only [Act.put, List.getElem_toArray, List.getElem_cons_succ, List.getElem_cons_zero, List.setIfInBounds_toArray, List.set_cons_zero, List.set_cons_succ])
          refine wpAnyH_take (i := 12) (v := undef) rfl (by kernel_rfl) (by kernel_rfl) (by kernel_rfl) (fun _ _ _ h => h) (Or.inr ⟨by kernel_rfl, rfl⟩) (by assumption) ?_
          (try simp only [Act.put, List.getElem_toArray, List.getElem_cons_succ, List.getElem_cons_zero, List.setIfInBounds_toArray, List.set_cons_zero, List.set_cons_succ])
          refine wpAnyH_take (i := 13) (v := undef) rfl (by kernel_rfl) (by kernel_rfl) (by kernel_rfl) (fun _ _ _ h => h) (Or.inr ⟨by kernel_rfl, rfl⟩) (by assumption) ?_
          (try simp only [Act.put, List.getElem_toArray, List.getElem_cons_succ, List.getElem_cons_zero, List.setIfInBounds_toArray, List.set_cons_zero, List.set_cons_succ])
          refine wpAnyH_take (i := 14) (v := undef) rfl (by kernel_rfl) (by kernel_rfl) (by kernel_rfl) (fun _ _ _ h => h) (Or.inr ⟨by kernel_rfl, rfl⟩) (by assumption) ?_
          (try simp only [Act.put, List.getElem_toArray, List.getElem_cons_succ, List.getElem_cons_zero, List.setIfInBounds_toArray, List.set_cons_zero, List.set_cons_succ])
          refine wpAnyH_take (i := 15) (v := undef) rfl (by kernel_rfl) (by kernel_rfl) (by kernel_rfl) (fun _ _ _ h => h) (Or.inr ⟨by kernel_rfl, rfl⟩) (by assumption) ?_
          (try simp only [Act.put, List.getElem_toArray, List.getElem_cons_succ, List.getElem_cons_zero, List.setIfInBounds_toArray, List.set_cons_zero, List.set_cons_succ])
          refine wpAnyH_take (i := 16) (v := undef) rfl (by kernel_rfl) (by kernel_rfl) (by kernel_rfl) (fun _ _ _ h => h) (Or.inr ⟨by kernel_rfl, rfl⟩) (by assumption) ?_
          (try simp only [Act.put, List.getElem_toArray, List.getElem_cons_succ, List.getElem_cons_zero, List.setIfInBounds_toArray, List.set_cons_zero, List.set_cons_succ])
          refine wpAnyH_take (i := 17) (v := undef) rfl (by kernel_rfl) (by kernel_rfl) (by kernel_rfl) (fun _ _ _ h => h) (Or.inr ⟨by kernel_rfl, rfl⟩) (by assumption) ?_
          (try simp only [Act.put, List.getElem_toArray, List.getElem_cons_succ, List.getElem_cons_zero, List.setIfInBounds_toArray, List.set_cons_zero, List.set_cons_succ])
          refine wpAnyH_take (i := 18) (v := .bool true) rfl (by kernel_rfl) (by kernel_rfl) (by kernel_rfl) (fun _ _ _ h => h) (Or.inl ⟨by rfl, fun V hSV => ?_⟩) (by assumption) ?_
          · obtain ⟨x0, x1, x2, x3, x4, x5, x6, x7, x8⟩ := hSV
            go_simp
          (try simp only [Act.put, List.getElem_toArray, List.getElem_cons_succ, List.getElem_cons_zero, List.setIfInBounds_toArray, List.set_cons_zero, List.set_cons_succ])
          refine wpAnyH_done (by kernel_rfl) ?_ _
          go_wp2_with fail
          go_ret2
          exact HBAD.out _ (hbd.out _ (below_then (Below.refl _ Y).drew hb5)) HE.out
        | true =>
          cases bi with
          | false =>
            have HE : Hid (q = 1) := Lib.hid (by rw [HQ.out, fill_no HF.out ht fun e => of_decide_eq_false hbi e.2])
            clear hbY hVY hQV hbm hbi ht
            go_wp2_with fail
            clear hY hV k0 k1 k2 k3 k4 k5 k6 k7 k8
            refine wp_region_held_drew (S := fun W => W.cell? ⟨V, 0, none⟩ = some (.int .i64 t.id) ∧ W.cell? ⟨V, 1, none⟩ = some (.int .i64 t.owner) ∧ W.cell? ⟨V, 2, none⟩ = some (.int .i64 t.div) ∧ W.cell? ⟨V, 3, none⟩ = some (.int .i64 t.place) ∧ W.cell? ⟨V, 4, none⟩ = some (.int .i64 t.blue) ∧ W.cell? ⟨V, 5, none⟩ = some (.int .i64 t.me) ∧ W.cell? ⟨V, 6, none⟩ = some (.int .i64 t.te) ∧ W.cell? ⟨V, 7, none⟩ = some (.int .i64 t.runs) ∧ W.cell? ⟨V, 8, none⟩ = some (.int .i64 t.busy)) (by kernel_rfl) (HVY.out _ (Below.refl _ Y).drew) (fun hHeld => ?_)
            refine wpAnyH_take (i := 0) (v := .agg #[.int .i64 t.id, .int .i64 t.owner, .int .i64 t.div, .int .i64 t.place, .int .i64 t.blue, .int .i64 t.me, .int .i64 t.te, .int .i64 t.runs, .int .i64 t.busy]) rfl (by kernel_rfl) (by kernel_rfl) (by kernel_rfl) (fun _ _ _ h => h) (Or.inl ⟨by rfl, fun V hSV => ?_⟩) (by assumption) ?_
            · obtain ⟨x0, x1, x2, x3, x4, x5, x6, x7, x8⟩ := hSV
              go_simp
            (try simp only [Act.put, List.getElem_toArray, List.getElem_cons_zero, List.setIfInBounds_toArray, List.set_cons_zero, List.set_cons_succ])
            refine wpAnyH_ready (rs := [1]) (by kernel_rfl) (by simp) ?_
            refine AllReadyH.cons (o := _) rfl (fun K hK => ?_) AllReadyH.nil
            go_simp
            refine (HM.out Y.drew).mono ?_
            rintro e w5 ⟨rfl, hb5⟩
            (try dsimp only)
            refine hK.out _ _ (HVY.out _ (below_then (Below.refl _ Y).drew hb5)) (fun hHeld => ?_)
            clear hK K
            (try simp only [Act.put, List.getElem_toArray, List.getElem_cons_succ, List.getElem_cons_zero, List.setIfInBounds_toArray, List.set_cons_zero, List.set_cons_succ])
            refine wpAnyH_take (i := 2) (v := .bool false) rfl (by kernel_rfl) (by kernel_rfl) (by kernel_rfl) (fun _ _ _ h => h) (Or.inl ⟨by rfl, fun V hSV => ?_⟩) (by assumption) ?_
            · obtain ⟨x0, x1, x2, x3, x4, x5, x6, x7, x8⟩ := hSV
              go_simp
            (try simp only [Act.put, List.getElem_toArray, List.getElem_cons_succ, List.getElem_cons_zero, List.setIfInBounds_toArray, List.set_cons_zero, List.set_cons_succ])
            refine wpAnyH_take (i := 3) (v := .bool false) rfl (by kernel_rfl) (by kernel_rfl) (by kernel_rfl) (fun _ _ _ h => h) (Or.inl ⟨by rfl, fun V hSV => ?_⟩) (by assumption) ?_
            · obtain ⟨x0, x1, x2, x3, x4, x5, x6, x7, x8⟩ := hSV
              go_simp
            (try simp only [Act.put, List.getElem_toArray, List.getElem_cons_succ, List.getElem_cons_zero, List.setIfInBounds_toArray, List.set_cons_zero, List.set_cons_succ])
            refine wpAnyH_take (i := 4) (v := .pointer (some ⟨V, 0, none⟩)) rfl (by kernel_rfl) (by kernel_rfl) (by kernel_rfl) (fun _ _ _ h => h) (Or.inl ⟨by rfl, fun V hSV => ?_⟩) (by assumption) ?_
            · obtain ⟨x0, x1, x2, x3, x4, x5, x6, x7, x8⟩ := hSV
              go_simp
            (try simp only [Act.put, List.getElem_toArray, List.getElem_cons_succ, List.getElem_cons_zero, List.setIfInBounds_toArray, List.set_cons_zero, List.set_cons_succ])
            refine wpAnyH_take (i := 5) (v := .int .i64 t.id) rfl (by kernel_rfl) (by kernel_rfl) (by kernel_rfl) (fun _ _ _ h => h) (Or.inl ⟨by rfl, fun V hSV => ?_⟩) (by assumption) ?_
            · obtain ⟨x0, x1, x2, x3, x4, x5, x6, x7, x8⟩ := hSV
              go_simp
            (try simp only [Act.put, List.getElem_toArray, List.getElem_cons_succ, List.getElem_cons_zero, List.setIfInBounds_toArray, List.set_cons_zero, List.set_cons_succ])
            refine wpAnyH_take (i := 6) (v := .int .i64 next) rfl (by kernel_rfl) (by kernel_rfl) (by kernel_rfl) (fun _ _ _ h => h) (Or.inl ⟨by rfl, fun V hSV => ?_⟩) (by assumption) ?_
            · obtain ⟨x0, x1, x2, x3, x4, x5, x6, x7, x8⟩ := hSV
              go_simp
            (try simp only [Act.put, List.getElem_toArray, List.getElem_cons_succ, List.getElem_cons_zero, List.setIfInBounds_toArray, List.set_cons_zero, List.set_cons_succ])
            refine wpAnyH_take (i := 7) (v := .int .i64 z) rfl (by kernel_rfl) (by kernel_rfl) (by kernel_rfl) (fun _ _ _ h => h) (Or.inl ⟨by rfl, fun V hSV => ?_⟩) (by assumption) ?_
            · obtain ⟨x0, x1, x2, x3, x4, x5, x6, x7, x8⟩ := hSV
              go_simp
            (try simp only [Act.put, List.getElem_toArray, List.getElem_cons_succ, List.getElem_cons_zero, List.setIfInBounds_toArray, List.set_cons_zero, List.set_cons_succ])
            refine wpAnyH_ready (rs := [8]) (by kernel_rfl) (by simp) ?_
            refine AllReadyH.cons (o := _) rfl (fun K hK => ?_) AllReadyH.nil
            go_simp
            refine (HI.out _).mono ?_
            rintro e w6 ⟨rfl, rfl⟩
            (try dsimp only)
            refine hK.out _ _ (HVY.out _ (below_then (Below.refl _ Y).drew hb5)) (fun hHeld => ?_)
            clear hK K
            (try simp only [Act.put, List.getElem_toArray, List.getElem_cons_succ, List.getElem_cons_zero, List.setIfInBounds_toArray, List.set_cons_zero, List.set_cons_succ])
            refine wpAnyH_take (i := 9) (v := .bool true) rfl (by kernel_rfl) (by kernel_rfl) (by kernel_rfl) (fun _ _ _ h => h) (Or.inl ⟨by rfl, fun V hSV => ?_⟩) (by assumption) ?_
            · obtain ⟨x0, x1, x2, x3, x4, x5, x6, x7, x8⟩ := hSV
              go_simp
            (try simp only [Act.put, List.getElem_toArray, List.getElem_cons_succ, List.getElem_cons_zero, List.setIfInBounds_toArray, List.set_cons_zero, List.set_cons_succ])
            refine wpAnyH_take (i := 10) (v := .bool true) rfl (by kernel_rfl) (by kernel_rfl) (by kernel_rfl) (fun _ _ _ h => h) (Or.inl ⟨by rfl, fun V hSV => ?_⟩) (by assumption) ?_
            · obtain ⟨x0, x1, x2, x3, x4, x5, x6, x7, x8⟩ := hSV
              go_simp
            (try simp only [Act.put, List.getElem_toArray, List.getElem_cons_succ, List.getElem_cons_zero, List.setIfInBounds_toArray, List.set_cons_zero, List.set_cons_succ])
            refine wpAnyH_take (i := 11) (v := .bool true) rfl (by kernel_rfl) (by kernel_rfl) (by kernel_rfl) (fun _ _ _ h => h) (Or.inl ⟨by rfl, fun V hSV => ?_⟩) (by assumption) ?_
            · obtain ⟨x0, x1, x2, x3, x4, x5, x6, x7, x8⟩ := hSV
              go_simp
            (try simp only [Act.put, List.getElem_toArray, List.getElem_cons_succ, List.getElem_cons_zero, List.setIfInBounds_toArray, List.set_cons_zero, List.set_cons_succ])
            refine wpAnyH_take (i := 12) (v := undef) rfl (by kernel_rfl) (by kernel_rfl) (by kernel_rfl) (fun _ _ _ h => h) (Or.inr ⟨by kernel_rfl, rfl⟩) (by assumption) ?_
            (try simp only [Act.put, List.getElem_toArray, List.getElem_cons_succ, List.getElem_cons_zero, List.setIfInBounds_toArray, List.set_cons_zero, List.set_cons_succ])
            refine wpAnyH_take (i := 13) (v := undef) rfl (by kernel_rfl) (by kernel_rfl) (by kernel_rfl) (fun _ _ _ h => h) (Or.inr ⟨by kernel_rfl, rfl⟩) (by assumption) ?_
            (try simp only [Act.put, List.getElem_toArray, List.getElem_cons_succ, List.getElem_cons_zero, List.setIfInBounds_toArray, List.set_cons_zero, List.set_cons_succ])
            refine wpAnyH_take (i := 14) (v := undef) rfl (by kernel_rfl) (by kernel_rfl) (by kernel_rfl) (fun _ _ _ h => h) (Or.inr ⟨by kernel_rfl, rfl⟩) (by assumption) ?_
            (try simp only [Act.put, List.getElem_toArray, List.getElem_cons_succ, List.getElem_cons_zero, List.setIfInBounds_toArray, List.set_cons_zero, List.set_cons_succ])
            refine wpAnyH_take (i := 15) (v := undef) rfl (by kernel_rfl) (by kernel_rfl) (by kernel_rfl) (fun _ _ _ h => h) (Or.inr ⟨by kernel_rfl, rfl⟩) (by assumption) ?_
            (try simp only [Act.put, List.getElem_toArray, List.getElem_cons_succ, List.getElem_cons_zero, List.setIfInBounds_toArray, List.set_cons_zero, List.set_cons_succ])
            refine wpAnyH_take (i := 16) (v := undef) rfl (by kernel_rfl) (by kernel_rfl) (by kernel_rfl) (fun _ _ _ h => h) (Or.inr ⟨by kernel_rfl, rfl⟩) (by assumption) ?_
            (try simp only [Act.put, List.getElem_toArray, List.getElem_cons_succ, List.getElem_cons_zero, List.setIfInBounds_toArray, List.set_cons_zero, List.set_cons_succ])
            refine wpAnyH_take (i := 17) (v := undef) rfl (by kernel_rfl) (by kernel_rfl) (by kernel_rfl) (fun _ _ _ h => h) (Or.inr ⟨by kernel_rfl, rfl⟩) (by assumption) ?_
            (try simp only [Act.put, List.getElem_toArray, List.getElem_cons_succ, List.getElem_cons_zero, List.setIfInBounds_toArray, List.set_cons_zero, List.set_cons_succ])
            refine wpAnyH_take (i := 18) (v := .bool true) rfl (by kernel_rfl) (by kernel_rfl) (by kernel_rfl) (fun _ _ _ h => h) (Or.inl ⟨by rfl, fun V hSV => ?_⟩) (by assumption) ?_
            · obtain ⟨x0, x1, x2, x3, x4, x5, x6, x7, x8⟩ := hSV
              go_simp
            (try simp only [Act.put, List.getElem_toArray, List.getElem_cons_succ, List.getElem_cons_zero, List.setIfInBounds_toArray, List.set_cons_zero, List.set_cons_succ])
            refine wpAnyH_done (by kernel_rfl) ?_ _
            go_wp2_with fail
            go_ret2
            exact HBAD.out _ (hbd.out _ (below_then (Below.refl _ Y).drew hb5)) HE.out
          | true =>
            obtain ⟨b, hb, hput⟩ := fill_one HFY.out ht (by omega) ⟨of_decide_eq_true hbm, of_decide_eq_true hbi⟩
            have HPU : Hid (∀ W, Below Y.heap.size Y W → Calls Try.prog 22 #[ptr Q, elV t] W fun e w' => e = .returned (.bool b) ∧ Hid ((w'.cell? ⟨V, 0, none⟩ = some (.int .i64 t.id) ∧ w'.cell? ⟨V, 1, none⟩ = some (.int .i64 t.owner) ∧ w'.cell? ⟨V, 2, none⟩ = some (.int .i64 t.div) ∧ w'.cell? ⟨V, 3, none⟩ = some (.int .i64 t.place) ∧ w'.cell? ⟨V, 4, none⟩ = some (.int .i64 t.blue) ∧ w'.cell? ⟨V, 5, none⟩ = some (.int .i64 t.me) ∧ w'.cell? ⟨V, 6, none⟩ = some (.int .i64 t.te) ∧ w'.cell? ⟨V, 7, none⟩ = some (.int .i64 t.runs) ∧ w'.cell? ⟨V, 8, none⟩ = some (.int .i64 t.busy)) ∧ Below w.heap.size w w' ∧ (b = true → Fill w w' Q z l (i + 1)))) := Lib.hid fun W hW => (hput W hW).mono fun _ w' ⟨e, h1, h2, h3⟩ => by
              have h4 := (hW.block _ (Array.getElem?_eq_some_iff.1 HVQ.out.1).1).trans HVQ.out.1
              exact ⟨e, Lib.hid ⟨el_at ((h1 V (Array.getElem?_eq_some_iff.1 h4).1 HVQ.out.2).trans h4), h2, h3⟩⟩
            have HBB := Lib.hid hb
            cases b with
            | false =>
              have HE : Hid (q = 1) := Lib.hid (by
                rcases HBB.out with h | h
                · cases h
                · rw [HQ.out, h.2])
              clear hbY hVY hQV hbm hbi ht hb hput
              go_wp2_with fail
              clear hY hV k0 k1 k2 k3 k4 k5 k6 k7 k8
              refine wp_region_held_drew (S := fun W => W.cell? ⟨V, 0, none⟩ = some (.int .i64 t.id) ∧ W.cell? ⟨V, 1, none⟩ = some (.int .i64 t.owner) ∧ W.cell? ⟨V, 2, none⟩ = some (.int .i64 t.div) ∧ W.cell? ⟨V, 3, none⟩ = some (.int .i64 t.place) ∧ W.cell? ⟨V, 4, none⟩ = some (.int .i64 t.blue) ∧ W.cell? ⟨V, 5, none⟩ = some (.int .i64 t.me) ∧ W.cell? ⟨V, 6, none⟩ = some (.int .i64 t.te) ∧ W.cell? ⟨V, 7, none⟩ = some (.int .i64 t.runs) ∧ W.cell? ⟨V, 8, none⟩ = some (.int .i64 t.busy)) (by kernel_rfl) (HVY.out _ (Below.refl _ Y).drew) (fun hHeld => ?_)
              refine wpAnyH_take (i := 0) (v := .agg #[.int .i64 t.id, .int .i64 t.owner, .int .i64 t.div, .int .i64 t.place, .int .i64 t.blue, .int .i64 t.me, .int .i64 t.te, .int .i64 t.runs, .int .i64 t.busy]) rfl (by kernel_rfl) (by kernel_rfl) (by kernel_rfl) (fun _ _ _ h => h) (Or.inl ⟨by rfl, fun V hSV => ?_⟩) (by assumption) ?_
              · obtain ⟨x0, x1, x2, x3, x4, x5, x6, x7, x8⟩ := hSV
                go_simp
              (try simp only [Act.put, List.getElem_toArray, List.getElem_cons_zero, List.setIfInBounds_toArray, List.set_cons_zero, List.set_cons_succ])
              refine wpAnyH_ready (rs := [1]) (by kernel_rfl) (by simp) ?_
              refine AllReadyH.cons (o := _) rfl (fun K hK => ?_) AllReadyH.nil
              go_simp
              refine (HM.out Y.drew).mono ?_
              rintro e w5 ⟨rfl, hb5⟩
              (try dsimp only)
              refine hK.out _ _ (HVY.out _ (below_then (Below.refl _ Y).drew hb5)) (fun hHeld => ?_)
              clear hK K
              (try simp only [Act.put, List.getElem_toArray, List.getElem_cons_succ, List.getElem_cons_zero, List.setIfInBounds_toArray, List.set_cons_zero, List.set_cons_succ])
              refine wpAnyH_take (i := 2) (v := .bool false) rfl (by kernel_rfl) (by kernel_rfl) (by kernel_rfl) (fun _ _ _ h => h) (Or.inl ⟨by rfl, fun V hSV => ?_⟩) (by assumption) ?_
              · obtain ⟨x0, x1, x2, x3, x4, x5, x6, x7, x8⟩ := hSV
                go_simp
              (try simp only [Act.put, List.getElem_toArray, List.getElem_cons_succ, List.getElem_cons_zero, List.setIfInBounds_toArray, List.set_cons_zero, List.set_cons_succ])
              refine wpAnyH_take (i := 3) (v := .bool false) rfl (by kernel_rfl) (by kernel_rfl) (by kernel_rfl) (fun _ _ _ h => h) (Or.inl ⟨by rfl, fun V hSV => ?_⟩) (by assumption) ?_
              · obtain ⟨x0, x1, x2, x3, x4, x5, x6, x7, x8⟩ := hSV
                go_simp
              (try simp only [Act.put, List.getElem_toArray, List.getElem_cons_succ, List.getElem_cons_zero, List.setIfInBounds_toArray, List.set_cons_zero, List.set_cons_succ])
              refine wpAnyH_take (i := 4) (v := .pointer (some ⟨V, 0, none⟩)) rfl (by kernel_rfl) (by kernel_rfl) (by kernel_rfl) (fun _ _ _ h => h) (Or.inl ⟨by rfl, fun V hSV => ?_⟩) (by assumption) ?_
              · obtain ⟨x0, x1, x2, x3, x4, x5, x6, x7, x8⟩ := hSV
                go_simp
              (try simp only [Act.put, List.getElem_toArray, List.getElem_cons_succ, List.getElem_cons_zero, List.setIfInBounds_toArray, List.set_cons_zero, List.set_cons_succ])
              refine wpAnyH_take (i := 5) (v := .int .i64 t.id) rfl (by kernel_rfl) (by kernel_rfl) (by kernel_rfl) (fun _ _ _ h => h) (Or.inl ⟨by rfl, fun V hSV => ?_⟩) (by assumption) ?_
              · obtain ⟨x0, x1, x2, x3, x4, x5, x6, x7, x8⟩ := hSV
                go_simp
              (try simp only [Act.put, List.getElem_toArray, List.getElem_cons_succ, List.getElem_cons_zero, List.setIfInBounds_toArray, List.set_cons_zero, List.set_cons_succ])
              refine wpAnyH_take (i := 6) (v := .int .i64 next) rfl (by kernel_rfl) (by kernel_rfl) (by kernel_rfl) (fun _ _ _ h => h) (Or.inl ⟨by rfl, fun V hSV => ?_⟩) (by assumption) ?_
              · obtain ⟨x0, x1, x2, x3, x4, x5, x6, x7, x8⟩ := hSV
                go_simp
              (try simp only [Act.put, List.getElem_toArray, List.getElem_cons_succ, List.getElem_cons_zero, List.setIfInBounds_toArray, List.set_cons_zero, List.set_cons_succ])
              refine wpAnyH_take (i := 7) (v := .int .i64 z) rfl (by kernel_rfl) (by kernel_rfl) (by kernel_rfl) (fun _ _ _ h => h) (Or.inl ⟨by rfl, fun V hSV => ?_⟩) (by assumption) ?_
              · obtain ⟨x0, x1, x2, x3, x4, x5, x6, x7, x8⟩ := hSV
                go_simp
              (try simp only [Act.put, List.getElem_toArray, List.getElem_cons_succ, List.getElem_cons_zero, List.setIfInBounds_toArray, List.set_cons_zero, List.set_cons_succ])
              refine wpAnyH_ready (rs := [8]) (by kernel_rfl) (by simp) ?_
              refine AllReadyH.cons (o := _) rfl (fun K hK => ?_) AllReadyH.nil
              go_simp
              refine (HI.out _).mono ?_
              rintro e w6 ⟨rfl, rfl⟩
              (try dsimp only)
              refine hK.out _ _ (HVY.out _ (below_then (Below.refl _ Y).drew hb5)) (fun hHeld => ?_)
              clear hK K
              (try simp only [Act.put, List.getElem_toArray, List.getElem_cons_succ, List.getElem_cons_zero, List.setIfInBounds_toArray, List.set_cons_zero, List.set_cons_succ])
              refine wpAnyH_take (i := 9) (v := .bool false) rfl (by kernel_rfl) (by kernel_rfl) (by kernel_rfl) (fun _ _ _ h => h) (Or.inl ⟨by rfl, fun V hSV => ?_⟩) (by assumption) ?_
              · obtain ⟨x0, x1, x2, x3, x4, x5, x6, x7, x8⟩ := hSV
                go_simp
              (try simp only [Act.put, List.getElem_toArray, List.getElem_cons_succ, List.getElem_cons_zero, List.setIfInBounds_toArray, List.set_cons_zero, List.set_cons_succ])
              refine wpAnyH_take (i := 10) (v := .bool false) rfl (by kernel_rfl) (by kernel_rfl) (by kernel_rfl) (fun _ _ _ h => h) (Or.inl ⟨by rfl, fun V hSV => ?_⟩) (by assumption) ?_
              · obtain ⟨x0, x1, x2, x3, x4, x5, x6, x7, x8⟩ := hSV
                go_simp
              (try simp only [Act.put, List.getElem_toArray, List.getElem_cons_succ, List.getElem_cons_zero, List.setIfInBounds_toArray, List.set_cons_zero, List.set_cons_succ])
              refine wpAnyH_take (i := 11) (v := .bool false) rfl (by kernel_rfl) (by kernel_rfl) (by kernel_rfl) (fun _ _ _ h => h) (Or.inl ⟨by rfl, fun V hSV => ?_⟩) (by assumption) ?_
              · obtain ⟨x0, x1, x2, x3, x4, x5, x6, x7, x8⟩ := hSV
                go_simp
              (try simp only [Act.put, List.getElem_toArray, List.getElem_cons_succ, List.getElem_cons_zero, List.setIfInBounds_toArray, List.set_cons_zero, List.set_cons_succ])
              refine wpAnyH_take (i := 12) (v := .pointer (some ⟨Q, 0, none⟩)) rfl (by kernel_rfl) (by kernel_rfl) (by kernel_rfl) (fun _ _ _ h => h) (Or.inl ⟨by rfl, fun V hSV => ?_⟩) (by assumption) ?_
              · obtain ⟨x0, x1, x2, x3, x4, x5, x6, x7, x8⟩ := hSV
                go_simp
              (try simp only [Act.put, List.getElem_toArray, List.getElem_cons_succ, List.getElem_cons_zero, List.setIfInBounds_toArray, List.set_cons_zero, List.set_cons_succ])
              refine wpAnyH_take (i := 13) (v := .pointer (some ⟨Q, 0, none⟩)) rfl (by kernel_rfl) (by kernel_rfl) (by kernel_rfl) (fun _ _ _ h => h) (Or.inl ⟨by rfl, fun V hSV => ?_⟩) (by assumption) ?_
              · obtain ⟨x0, x1, x2, x3, x4, x5, x6, x7, x8⟩ := hSV
                go_simp
              (try simp only [Act.put, List.getElem_toArray, List.getElem_cons_succ, List.getElem_cons_zero, List.setIfInBounds_toArray, List.set_cons_zero, List.set_cons_succ])
              refine wpAnyH_take (i := 14) (v := .pointer (some ⟨Q, 0, none⟩)) rfl (by kernel_rfl) (by kernel_rfl) (by kernel_rfl) (fun _ _ _ h => h) (Or.inl ⟨by rfl, fun V hSV => ?_⟩) (by assumption) ?_
              · obtain ⟨x0, x1, x2, x3, x4, x5, x6, x7, x8⟩ := hSV
                go_simp
              (try simp only [Act.put, List.getElem_toArray, List.getElem_cons_succ, List.getElem_cons_zero, List.setIfInBounds_toArray, List.set_cons_zero, List.set_cons_succ])
              refine wpAnyH_take (i := 15) (v := .agg #[.int .i64 t.id, .int .i64 t.owner, .int .i64 t.div, .int .i64 t.place, .int .i64 t.blue, .int .i64 t.me, .int .i64 t.te, .int .i64 t.runs, .int .i64 t.busy]) rfl (by kernel_rfl) (by kernel_rfl) (by kernel_rfl) (fun _ _ _ h => h) (Or.inl ⟨by rfl, fun V hSV => ?_⟩) (by assumption) ?_
              · obtain ⟨x0, x1, x2, x3, x4, x5, x6, x7, x8⟩ := hSV
                go_simp
              (try simp only [Act.put, List.getElem_toArray, List.getElem_cons_succ, List.getElem_cons_zero, List.setIfInBounds_toArray, List.set_cons_zero, List.set_cons_succ])
              refine wpAnyH_ready (rs := [16]) (by kernel_rfl) (by simp) ?_
              refine AllReadyH.cons (o := _) rfl (fun K hK => ?_) AllReadyH.nil
              go_simp
              refine (HPU.out w5 (below_then (Below.refl _ Y).drew hb5)).mono ?_
              rintro e w7 ⟨rfl, H7⟩
              (try dsimp only)
              refine hK.out _ _ (H7.out.1) (fun hHeld => ?_)
              clear hK K
              (try simp only [Act.put, List.getElem_toArray, List.getElem_cons_succ, List.getElem_cons_zero, List.setIfInBounds_toArray, List.set_cons_zero, List.set_cons_succ])
              refine wpAnyH_take (i := 17) (v := .bool true) rfl (by kernel_rfl) (by kernel_rfl) (by kernel_rfl) (fun _ _ _ h => h) (Or.inl ⟨by rfl, fun V hSV => ?_⟩) (by assumption) ?_
              · obtain ⟨x0, x1, x2, x3, x4, x5, x6, x7, x8⟩ := hSV
                go_simp
              (try simp only [Act.put, List.getElem_toArray, List.getElem_cons_succ, List.getElem_cons_zero, List.setIfInBounds_toArray, List.set_cons_zero, List.set_cons_succ])
              refine wpAnyH_take (i := 18) (v := .bool true) rfl (by kernel_rfl) (by kernel_rfl) (by kernel_rfl) (fun _ _ _ h => h) (Or.inl ⟨by rfl, fun V hSV => ?_⟩) (by assumption) ?_
              · obtain ⟨x0, x1, x2, x3, x4, x5, x6, x7, x8⟩ := hSV
                go_simp
              (try simp only [Act.put, List.getElem_toArray, List.getElem_cons_succ, List.getElem_cons_zero, List.setIfInBounds_toArray, List.set_cons_zero, List.set_cons_succ])
              refine wpAnyH_done (by kernel_rfl) ?_ _
              go_wp2_with fail
              go_ret2
              exact HBAD.out _ H7.out.2.1 HE.out
            | true =>
              clear hbY hVY hQV hbm hbi ht hb hput
              go_wp2_with fail
              clear hY hV k0 k1 k2 k3 k4 k5 k6 k7 k8
              refine wp_region_held_drew (S := fun W => W.cell? ⟨V, 0, none⟩ = some (.int .i64 t.id) ∧ W.cell? ⟨V, 1, none⟩ = some (.int .i64 t.owner) ∧ W.cell? ⟨V, 2, none⟩ = some (.int .i64 t.div) ∧ W.cell? ⟨V, 3, none⟩ = some (.int .i64 t.place) ∧ W.cell? ⟨V, 4, none⟩ = some (.int .i64 t.blue) ∧ W.cell? ⟨V, 5, none⟩ = some (.int .i64 t.me) ∧ W.cell? ⟨V, 6, none⟩ = some (.int .i64 t.te) ∧ W.cell? ⟨V, 7, none⟩ = some (.int .i64 t.runs) ∧ W.cell? ⟨V, 8, none⟩ = some (.int .i64 t.busy)) (by kernel_rfl) (HVY.out _ (Below.refl _ Y).drew) (fun hHeld => ?_)
              refine wpAnyH_take (i := 0) (v := .agg #[.int .i64 t.id, .int .i64 t.owner, .int .i64 t.div, .int .i64 t.place, .int .i64 t.blue, .int .i64 t.me, .int .i64 t.te, .int .i64 t.runs, .int .i64 t.busy]) rfl (by kernel_rfl) (by kernel_rfl) (by kernel_rfl) (fun _ _ _ h => h) (Or.inl ⟨by rfl, fun V hSV => ?_⟩) (by assumption) ?_
              · obtain ⟨x0, x1, x2, x3, x4, x5, x6, x7, x8⟩ := hSV
                go_simp
              (try simp only [Act.put, List.getElem_toArray, List.getElem_cons_zero, List.setIfInBounds_toArray, List.set_cons_zero, List.set_cons_succ])
              refine wpAnyH_ready (rs := [1]) (by kernel_rfl) (by simp) ?_
              refine AllReadyH.cons (o := _) rfl (fun K hK => ?_) AllReadyH.nil
              go_simp
              refine (HM.out Y.drew).mono ?_
              rintro e w5 ⟨rfl, hb5⟩
              (try dsimp only)
              refine hK.out _ _ (HVY.out _ (below_then (Below.refl _ Y).drew hb5)) (fun hHeld => ?_)
              clear hK K
              (try simp only [Act.put, List.getElem_toArray, List.getElem_cons_succ, List.getElem_cons_zero, List.setIfInBounds_toArray, List.set_cons_zero, List.set_cons_succ])
              refine wpAnyH_take (i := 2) (v := .bool false) rfl (by kernel_rfl) (by kernel_rfl) (by kernel_rfl) (fun _ _ _ h => h) (Or.inl ⟨by rfl, fun V hSV => ?_⟩) (by assumption) ?_
              · obtain ⟨x0, x1, x2, x3, x4, x5, x6, x7, x8⟩ := hSV
                go_simp
              (try simp only [Act.put, List.getElem_toArray, List.getElem_cons_succ, List.getElem_cons_zero, List.setIfInBounds_toArray, List.set_cons_zero, List.set_cons_succ])
              refine wpAnyH_take (i := 3) (v := .bool false) rfl (by kernel_rfl) (by kernel_rfl) (by kernel_rfl) (fun _ _ _ h => h) (Or.inl ⟨by rfl, fun V hSV => ?_⟩) (by assumption) ?_
              · obtain ⟨x0, x1, x2, x3, x4, x5, x6, x7, x8⟩ := hSV
                go_simp
              (try simp only [Act.put, List.getElem_toArray, List.getElem_cons_succ, List.getElem_cons_zero, List.setIfInBounds_toArray, List.set_cons_zero, List.set_cons_succ])
              refine wpAnyH_take (i := 4) (v := .pointer (some ⟨V, 0, none⟩)) rfl (by kernel_rfl) (by kernel_rfl) (by kernel_rfl) (fun _ _ _ h => h) (Or.inl ⟨by rfl, fun V hSV => ?_⟩) (by assumption) ?_
              · obtain ⟨x0, x1, x2, x3, x4, x5, x6, x7, x8⟩ := hSV
                go_simp
              (try simp only [Act.put, List.getElem_toArray, List.getElem_cons_succ, List.getElem_cons_zero, List.setIfInBounds_toArray, List.set_cons_zero, List.set_cons_succ])
              refine wpAnyH_take (i := 5) (v := .int .i64 t.id) rfl (by kernel_rfl) (by kernel_rfl) (by kernel_rfl) (fun _ _ _ h => h) (Or.inl ⟨by rfl, fun V hSV => ?_⟩) (by assumption) ?_
              · obtain ⟨x0, x1, x2, x3, x4, x5, x6, x7, x8⟩ := hSV
                go_simp
              (try simp only [Act.put, List.getElem_toArray, List.getElem_cons_succ, List.getElem_cons_zero, List.setIfInBounds_toArray, List.set_cons_zero, List.set_cons_succ])
              refine wpAnyH_take (i := 6) (v := .int .i64 next) rfl (by kernel_rfl) (by kernel_rfl) (by kernel_rfl) (fun _ _ _ h => h) (Or.inl ⟨by rfl, fun V hSV => ?_⟩) (by assumption) ?_
              · obtain ⟨x0, x1, x2, x3, x4, x5, x6, x7, x8⟩ := hSV
                go_simp
              (try simp only [Act.put, List.getElem_toArray, List.getElem_cons_succ, List.getElem_cons_zero, List.setIfInBounds_toArray, List.set_cons_zero, List.set_cons_succ])
              refine wpAnyH_take (i := 7) (v := .int .i64 z) rfl (by kernel_rfl) (by kernel_rfl) (by kernel_rfl) (fun _ _ _ h => h) (Or.inl ⟨by rfl, fun V hSV => ?_⟩) (by assumption) ?_
              · obtain ⟨x0, x1, x2, x3, x4, x5, x6, x7, x8⟩ := hSV
                go_simp
              (try simp only [Act.put, List.getElem_toArray, List.getElem_cons_succ, List.getElem_cons_zero, List.setIfInBounds_toArray, List.set_cons_zero, List.set_cons_succ])
              refine wpAnyH_ready (rs := [8]) (by kernel_rfl) (by simp) ?_
              refine AllReadyH.cons (o := _) rfl (fun K hK => ?_) AllReadyH.nil
              go_simp
              refine (HI.out _).mono ?_
              rintro e w6 ⟨rfl, rfl⟩
              (try dsimp only)
              refine hK.out _ _ (HVY.out _ (below_then (Below.refl _ Y).drew hb5)) (fun hHeld => ?_)
              clear hK K
              (try simp only [Act.put, List.getElem_toArray, List.getElem_cons_succ, List.getElem_cons_zero, List.setIfInBounds_toArray, List.set_cons_zero, List.set_cons_succ])
              refine wpAnyH_take (i := 9) (v := .bool false) rfl (by kernel_rfl) (by kernel_rfl) (by kernel_rfl) (fun _ _ _ h => h) (Or.inl ⟨by rfl, fun V hSV => ?_⟩) (by assumption) ?_
              · obtain ⟨x0, x1, x2, x3, x4, x5, x6, x7, x8⟩ := hSV
                go_simp
              (try simp only [Act.put, List.getElem_toArray, List.getElem_cons_succ, List.getElem_cons_zero, List.setIfInBounds_toArray, List.set_cons_zero, List.set_cons_succ])
              refine wpAnyH_take (i := 10) (v := .bool false) rfl (by kernel_rfl) (by kernel_rfl) (by kernel_rfl) (fun _ _ _ h => h) (Or.inl ⟨by rfl, fun V hSV => ?_⟩) (by assumption) ?_
              · obtain ⟨x0, x1, x2, x3, x4, x5, x6, x7, x8⟩ := hSV
                go_simp
              (try simp only [Act.put, List.getElem_toArray, List.getElem_cons_succ, List.getElem_cons_zero, List.setIfInBounds_toArray, List.set_cons_zero, List.set_cons_succ])
              refine wpAnyH_take (i := 11) (v := .bool false) rfl (by kernel_rfl) (by kernel_rfl) (by kernel_rfl) (fun _ _ _ h => h) (Or.inl ⟨by rfl, fun V hSV => ?_⟩) (by assumption) ?_
              · obtain ⟨x0, x1, x2, x3, x4, x5, x6, x7, x8⟩ := hSV
                go_simp
              (try simp only [Act.put, List.getElem_toArray, List.getElem_cons_succ, List.getElem_cons_zero, List.setIfInBounds_toArray, List.set_cons_zero, List.set_cons_succ])
              refine wpAnyH_take (i := 12) (v := .pointer (some ⟨Q, 0, none⟩)) rfl (by kernel_rfl) (by kernel_rfl) (by kernel_rfl) (fun _ _ _ h => h) (Or.inl ⟨by rfl, fun V hSV => ?_⟩) (by assumption) ?_
              · obtain ⟨x0, x1, x2, x3, x4, x5, x6, x7, x8⟩ := hSV
                go_simp
              (try simp only [Act.put, List.getElem_toArray, List.getElem_cons_succ, List.getElem_cons_zero, List.setIfInBounds_toArray, List.set_cons_zero, List.set_cons_succ])
              refine wpAnyH_take (i := 13) (v := .pointer (some ⟨Q, 0, none⟩)) rfl (by kernel_rfl) (by kernel_rfl) (by kernel_rfl) (fun _ _ _ h => h) (Or.inl ⟨by rfl, fun V hSV => ?_⟩) (by assumption) ?_
              · obtain ⟨x0, x1, x2, x3, x4, x5, x6, x7, x8⟩ := hSV
                go_simp
              (try simp only [Act.put, List.getElem_toArray, List.getElem_cons_succ, List.getElem_cons_zero, List.setIfInBounds_toArray, List.set_cons_zero, List.set_cons_succ])
              refine wpAnyH_take (i := 14) (v := .pointer (some ⟨Q, 0, none⟩)) rfl (by kernel_rfl) (by kernel_rfl) (by kernel_rfl) (fun _ _ _ h => h) (Or.inl ⟨by rfl, fun V hSV => ?_⟩) (by assumption) ?_
              · obtain ⟨x0, x1, x2, x3, x4, x5, x6, x7, x8⟩ := hSV
                go_simp
              (try simp only [Act.put, List.getElem_toArray, List.getElem_cons_succ, List.getElem_cons_zero, List.setIfInBounds_toArray, List.set_cons_zero, List.set_cons_succ])
              refine wpAnyH_take (i := 15) (v := .agg #[.int .i64 t.id, .int .i64 t.owner, .int .i64 t.div, .int .i64 t.place, .int .i64 t.blue, .int .i64 t.me, .int .i64 t.te, .int .i64 t.runs, .int .i64 t.busy]) rfl (by kernel_rfl) (by kernel_rfl) (by kernel_rfl) (fun _ _ _ h => h) (Or.inl ⟨by rfl, fun V hSV => ?_⟩) (by assumption) ?_
              · obtain ⟨x0, x1, x2, x3, x4, x5, x6, x7, x8⟩ := hSV
                go_simp
              (try simp only [Act.put, List.getElem_toArray, List.getElem_cons_succ, List.getElem_cons_zero, List.setIfInBounds_toArray, List.set_cons_zero, List.set_cons_succ])
              refine wpAnyH_ready (rs := [16]) (by kernel_rfl) (by simp) ?_
              refine AllReadyH.cons (o := _) rfl (fun K hK => ?_) AllReadyH.nil
              go_simp
              refine (HPU.out w5 (below_then (Below.refl _ Y).drew hb5)).mono ?_
              rintro e w7 ⟨rfl, H7⟩
              (try dsimp only)
              refine hK.out _ _ (H7.out.1) (fun hHeld => ?_)
              clear hK K
              (try simp only [Act.put, List.getElem_toArray, List.getElem_cons_succ, List.getElem_cons_zero, List.setIfInBounds_toArray, List.set_cons_zero, List.set_cons_succ])
              refine wpAnyH_take (i := 17) (v := .bool false) rfl (by kernel_rfl) (by kernel_rfl) (by kernel_rfl) (fun _ _ _ h => h) (Or.inl ⟨by rfl, fun V hSV => ?_⟩) (by assumption) ?_
              · obtain ⟨x0, x1, x2, x3, x4, x5, x6, x7, x8⟩ := hSV
                go_simp
              (try simp only [Act.put, List.getElem_toArray, List.getElem_cons_succ, List.getElem_cons_zero, List.setIfInBounds_toArray, List.set_cons_zero, List.set_cons_succ])
              refine wpAnyH_take (i := 18) (v := .bool false) rfl (by kernel_rfl) (by kernel_rfl) (by kernel_rfl) (fun _ _ _ h => h) (Or.inl ⟨by rfl, fun V hSV => ?_⟩) (by assumption) ?_
              · obtain ⟨x0, x1, x2, x3, x4, x5, x6, x7, x8⟩ := hSV
                go_simp
              (try simp only [Act.put, List.getElem_toArray, List.getElem_cons_succ, List.getElem_cons_zero, List.setIfInBounds_toArray, List.set_cons_zero, List.set_cons_succ])
              refine wpAnyH_done (by kernel_rfl) ?_ _
              have HF7 := Lib.hid (H7.out.2.2 (by first | trivial | rfl))
              go_wp2_with fail
              go_roundw
              case rel => exact ⟨i + 1, by go_num, by omega, HF7⟩
              case measure => simp [RowKit.intOf]; omega
      · obtain rfl : i = n := by omega
        have HE : Hid (q = 0 ∧ Below w.heap.size w wr ∧ ∃ F, DP wr Q F (loadL l next) z ∧ w.heap.size ≤ Q ∧ ∀ k, F k → w.heap.size ≤ k) := Lib.hid (by
          obtain ⟨R, out, h1, h2, _, _, h5⟩ := HF.out.pt
          rw [List.drop_eq_nil_of_le (by rw [HN.out]; exact Nat.le_refl _)] at h2
          have h3 : ld z [] l = some out := h2
          have h4 : loadL l next = out := by rw [HLL.out, h3]; rfl
          rw [h4]
          exact ⟨by rw [HQ.out, h3], HF.out.below, R, h1, HF.out.new, h5⟩)
        go_wp2_with fail
        go_ret2
        obtain ⟨e1, e2, F, e3, e4, e5⟩ := HE.out
        exact ⟨some ⟨Q, 0, none⟩, by rw [e1]; rfl, Lib.hid ⟨e2, fun h => absurd e1 h, fun _ => ⟨Q, F, rfl, e3, e4, e5⟩⟩⟩
end Go.Proofs.Ytfebaiefoonncaa.Draft
