/- The program's Load. The program's bins as the laws ask for them. -/
import Derived.Test.YtkljaaeeocghjaaBinImF
import Derived.Test.YtkljaaeeocghjaaBinH
import Derived.BigRegion
import Derived.Test.YtkljaaeeocghjaaBinImO
import Derived.Test.YtkljaaeeocghjaaBinM
namespace Go.Proofs.Ytkljaaeeocghjaa.Bins
open Go.RowKit Go.Lib

theorem tot_ld : ∀ {l out r : List Lt}, Sofar out → ld out l = some r → (∀ k, tot r k = tot out k + tot l k) ∧ ∀ a ∈ l, MayB a.b ∧ 1 ≤ a.q ∧ a.q ≤ mq
  | [], out, r, _, h => by
    unfold ld at h
    cases h
    exact ⟨fun k => by simp [tot], fun a ha => by cases ha⟩
  | a :: l, out, r, hs, h => by
    unfold ld at h
    by_cases e : LotOk out a
    · rw [if_pos e] at h
      obtain ⟨h1, h2⟩ := tot_ld (sofar_set hs e) h
      have hz : qty out a.b = 0 := by
        have h3 := (qty_le_tot (fun c hc => (hs.2.2 c hc).1) a.b).1
        have h4 := e.2.2
        omega
      refine ⟨fun k => ?_, fun c hc => ?_⟩
      · rw [h1, tot_set hs.1, hz]
        show _ = tot out k + ((if a.b.t = k then a.q else 0) + tot l k)
        split <;> omega
      · rcases List.mem_cons.1 hc with rfl | hc
        · exact ⟨e.1, e.2.1.1, e.2.1.2⟩
        · exact h2 c hc
    · rw [if_neg e] at h
      cases h
/-- What stands ahead of each lot. -/
structure Filling (w W : World) (Q : Nat) (l : List Lt) (i : Nat) : Prop where
  below : Below w.heap.size w W
  new : w.heap.size ≤ Q
  pt : ∃ R out, PT W Q R out ∧ ld out (l.drop i) = ld [] l ∧ Sofar out ∧ out.length ≤ i
theorem Filling.under {w W W' : World} {Q : Nat} {l : List Lt} {i : Nat} (h : Filling w W Q l i) (hb : Below W.heap.size W W') : Filling w W' Q l i := by
  obtain ⟨R, out, h1, h2⟩ := h.pt
  exact ⟨below_then h.below hb, h.new, R, out, h1.under hb, h2⟩
theorem fill_bad {w W : World} {Q : Nat} {l : List Lt} {i : Nat} {t : Lt} (h : Filling w W Q l i) (ht : l[i]? = some t) (hx : ¬ (MayB t.b ∧ 1 ≤ t.q ∧ t.q ≤ mq)) : loadE l = 1 := by
  obtain ⟨R, out, _, h2, _, _⟩ := h.pt
  rw [ld_cons ht, if_neg (fun e => hx ⟨e.1, e.2.1⟩)] at h2
  exact (load_none h2.symm).1
/-- A lot that may be: its bin has something already, or it is laid down. -/
theorem fill_at {w W : World} {Q : Nat} {l : List Lt} {i : Nat} {t : Lt} (h : Filling w W Q l i) (ht : l[i]? = some t) (hi : i < 1000) (hok : MayB t.b ∧ 1 ≤ t.q ∧ t.q ≤ mq) :
    ∃ z : Int, Hid (∀ W1, Below W.heap.size W W1 → Calls Try.prog 27 #[ptr Q, bV t.b] W1 fun e w' => e = .returned (.int .i64 z) ∧ Hid (Below W.heap.size W w')) ∧
      ((0 < z ∧ loadE l = 1) ∨ (¬ 0 < z ∧ Hid (∀ W1, Below W.heap.size W W1 → Calls Try.prog 28 #[ptr Q, bV t.b, .int .i64 t.q] W1 fun e w' => e = .returned (.tuple #[]) ∧ Hid (Filling w w' Q l (i + 1))))) := by
  obtain ⟨R, out, h1, h2, h3, h4⟩ := h.pt
  have hpos : ∀ a ∈ out, 1 ≤ a.q := fun a ha => (h3.2.2 a ha).1
  rw [ld_cons ht] at h2
  refine ⟨qty out t.b, Lib.hid (fun W1 hb => (at_im t.b W1 (h1.under hb) h3.1 hpos (by omega)).mono fun _ _ ⟨e, h⟩ => ⟨e, Lib.hid (below_then hb h)⟩), ?_⟩
  by_cases hz : 0 < qty out t.b
  · rw [if_neg (fun e => e.2.2 hz)] at h2
    exact .inl ⟨hz, (load_none h2.symm).1⟩
  · have hl : LotOk out t := ⟨hok.1, hok.2, hz⟩
    rw [if_pos hl] at h2
    refine .inr ⟨hz, Lib.hid (fun W1 hb => (set_im t.b t.q W1 (h1.under hb) h3.1 (by omega)).mono ?_)⟩
    rintro e w' ⟨rfl, H⟩
    obtain ⟨R', g1, g2⟩ := H.out
    have := set_length out t.b t.q
    exact ⟨rfl, Lib.hid ⟨g2.below (below_then h.below hb) h.new, h.new, R', _, g1, h2, sofar_set h3 hl, by omega⟩⟩
/-- All are in. -/
structure Full (w W : World) (Q : Nat) (l : List Lt) : Prop where
  below : Below w.heap.size w W
  new : w.heap.size ≤ Q
  pt : ∃ R out, PT W Q R out ∧ ld [] l = some out
theorem Full.under {w W W' : World} {Q : Nat} {l : List Lt} (h : Full w W Q l) (hb : Below W.heap.size W W') : Full w W' Q l := by
  obtain ⟨R, out, h1, h2⟩ := h.pt
  exact ⟨below_then h.below hb, h.new, R, out, h1.under hb, h2⟩
theorem Filling.full {w W : World} {Q : Nat} {l : List Lt} {n : Nat} (h : Filling w W Q l n) (hn : l.length = n) : Full w W Q l := by
  obtain ⟨R, out, h1, h2, _, _⟩ := h.pt
  refine ⟨h.below, h.new, R, out, h1, ?_⟩
  rw [← h2, List.drop_of_length_le (by omega)]
  rfl
theorem sofar_nil : Sofar [] := ⟨.nil, fun _ h => (by cases h), fun _ h => (by cases h)⟩
theorem Full.lots {w W : World} {Q : Nat} {l : List Lt} (h : Full w W Q l) : ∀ a ∈ l, MayB a.b ∧ 1 ≤ a.q ∧ a.q ≤ mq := by
  obtain ⟨R, out, _, h2⟩ := h.pt
  exact (tot_ld sofar_nil h2).2
theorem Full.over {w W : World} {Q : Nat} {l : List Lt} (h : Full w W Q l) {k : Int} (ho : mq < tot l k) : loadE l = 5 := by
  obtain ⟨R, out, _, h2⟩ := h.pt
  have h3 := (tot_ld sofar_nil h2).1 k
  exact (load_over h2 ⟨k, by simp only [tot] at h3; omega⟩).1
theorem Full.fine {w W : World} {Q : Nat} {l : List Lt} (h : Full w W Q l) (ho : ∀ k, tot l k ≤ mq) : loadE l = 0 ∧ ∃ R, PT W Q R (loadL l) := by
  obtain ⟨R, out, h1, h2⟩ := h.pt
  obtain ⟨e1, e2⟩ := load_fine h2 (fun ⟨k, hk⟩ => by
    have h3 := (tot_ld sofar_nil h2).1 k
    have h4 := ho k
    simp only [tot] at h3
    omega)
  exact ⟨e1, R, by rw [e2]; exact h1⟩
theorem cells_lot {W : World} {U : Nat} {t : Lt} (h : CellsL W U 0 t) : W.cell? ⟨U, 0, none⟩ = some (.int .i64 t.b.o) ∧ W.cell? ⟨U, 1, none⟩ = some (.int .i64 t.b.d) ∧ W.cell? ⟨U, 2, none⟩ = some (.int .i64 t.b.p) ∧ W.cell? ⟨U, 3, none⟩ = some (.int .i64 t.b.t) ∧ W.cell? ⟨U, 4, none⟩ = some (.int .i64 t.q) := by
  obtain ⟨h0, h1, h2, h3, h4⟩ := h
  rw [Nat.zero_add] at h1 h2 h3 h4
  exact ⟨h0, h1, h2, h3, h4⟩
theorem below_drewN {B : Nat} {w w' : World} (h : Below B w w') (k : Nat) : Below B w (w'.drewN k) := ⟨h.os, h.tape, h.output, h.size, h.block⟩
/-- How many there are so far of each type, in an array of the call's own. -/
def Sums (W : World) (A : Nat) (l : List Lt) (j : Nat) : Prop := ∀ k : Nat, k < 33 → W.cell? ⟨A, k, none⟩ = some (.int .i64 (tot (l.take j) k)) ∧ W.frozen? ⟨A, k, none⟩ = false
theorem Sums.under {W W' : World} {A : Nat} {l : List Lt} {j : Nat} (h : Sums W A l j) (hA : A < W.heap.size) (hb : Below W.heap.size W W') : Sums W' A l j := fun k hk => ⟨((bcell hb).1 A k hA).trans (h k hk).1, ((bcell hb).2 A k hA).trans (h k hk).2⟩
theorem Sums.set {W : World} {A : Nat} {l : List Lt} {j : Nat} {t : Lt} {k : Nat} (h : Sums W A l j) (ht : l[j]? = some t) (hk : t.b.t = (k : Int)) (hk3 : k < 33) {s : Int} (hs : tot (l.take j) k + t.q = s) : Sums (W.setCell ⟨A, k, none⟩ (.int .i64 s)) A l (j + 1) := fun i hi => by
  have hf := (h i hi).2
  rw [tot_take_succ ht]
  refine ⟨?_, ?_⟩
  · by_cases e : i = k
    · subst e
      rw [if_pos hk, hs]
      rw [World.cell?_setCell_same (h := (h i hi).1)]
    · rw [if_neg (by omega), Int.add_zero, World.cell?_setCell_other (h := fun e2 => e (by injection e2 with _ e3 _; exact e3.symm))]
      exact (h i hi).1
  · rw [World.frozen?_setCell]
    exact hf
/-- What stands ahead of each lot as the types are summed. -/
structure Summing (w W : World) (Q : Nat) (l : List Lt) (A j : Nat) : Prop where
  below : Below w.heap.size w W
  new : w.heap.size ≤ Q
  arr : w.heap.size ≤ A ∧ A < W.heap.size
  pt : ∃ R out, PT W Q R out ∧ (∀ k, R k → k ≠ A) ∧ ld [] l = some out
  sums : Sums W A l j
  most : ∀ k, tot (l.take j) k ≤ mq
theorem Summing.full {w W : World} {Q : Nat} {l : List Lt} {A j : Nat} (h : Summing w W Q l A j) : Full w W Q l := by
  obtain ⟨R, out, h1, _, h2⟩ := h.pt
  exact ⟨h.below, h.new, R, out, h1, h2⟩
theorem Summing.under {w W W' : World} {Q : Nat} {l : List Lt} {A j : Nat} (h : Summing w W Q l A j) (hb : Below W.heap.size W W') : Summing w W' Q l A j := by
  obtain ⟨R, out, h1, h2⟩ := h.pt
  exact ⟨below_then h.below hb, h.new, ⟨h.arr.1, Nat.lt_of_lt_of_le h.arr.2 hb.size⟩, ⟨R, out, h1.under hb, h2⟩, h.sums.under h.arr.2 hb, h.most⟩
theorem Summing.store {w W : World} {Q : Nat} {l : List Lt} {A j : Nat} {t : Lt} {k : Nat} {s : Int} (h : Summing w W Q l A j) (ht : l[j]? = some t) (hk : t.b.t = (k : Int)) (hk3 : k < 33) (hs : tot (l.take j) k + t.q = s) (hm : s ≤ mq) : Summing w (W.setCell ⟨A, k, none⟩ (.int .i64 s)) Q l A (j + 1) := by
  obtain ⟨R, out, h1, h2, h3⟩ := h.pt
  refine ⟨h.below.trans ((Below.refl _ W).setCell (p := ⟨A, k, none⟩) h.arr.1 _), h.new, ⟨h.arr.1, by simpa [World.setCell] using h.arr.2⟩, ⟨R, out, h1.keep (by simp [World.setCell]) (fun q hq => Below.heap_setCell W ⟨A, k, none⟩ _ q (h2 q hq)), h2, h3⟩, h.sums.set ht hk hk3 hs, fun i => ?_⟩
  rw [tot_take_succ ht]
  have h5 := h.most i
  by_cases e : t.b.t = i
  · rw [if_pos e]
    rw [hk] at e
    subst e
    omega
  · rw [if_neg e]
    omega
abbrev zeros33 : Array Value := #[.int .i64 0, .int .i64 0, .int .i64 0, .int .i64 0, .int .i64 0, .int .i64 0, .int .i64 0, .int .i64 0, .int .i64 0, .int .i64 0, .int .i64 0, .int .i64 0, .int .i64 0, .int .i64 0, .int .i64 0, .int .i64 0, .int .i64 0, .int .i64 0, .int .i64 0, .int .i64 0, .int .i64 0, .int .i64 0, .int .i64 0, .int .i64 0, .int .i64 0, .int .i64 0, .int .i64 0, .int .i64 0, .int .i64 0, .int .i64 0, .int .i64 0, .int .i64 0, .int .i64 0]
theorem sums_new (W : World) (l : List Lt) (T : TypeId) : Sums (W.alloc (.cells zeros33 T)) W.heap.size l 0 := fun k hk => by
  have hb := heap_alloc_new W (.cells zeros33 T)
  refine ⟨cell_block hb ?_, free_block k hb⟩
  have h1 : zeros33 = Array.replicate 33 (.int .i64 0) := rfl
  rw [h1, Array.getElem?_replicate, if_pos hk, List.take_zero]
  rfl
theorem Full.summing {w W : World} {Q : Nat} {l : List Lt} (h : Full w W Q l) (T : TypeId) : Summing w (W.alloc (.cells zeros33 T)) Q l W.heap.size 0 := by
  obtain ⟨R, out, h1, h2⟩ := h.pt
  have hb := (Below.refl W.heap.size W).alloc (Nat.le_refl _) (.cells zeros33 T)
  exact ⟨below_then h.below hb, h.new, ⟨h.below.size, by simp⟩, ⟨R, out, h1.under hb, fun k hk => by have := h1.lt k hk; omega, h2⟩, sums_new W l T, fun k => by rw [List.take_zero]; show (0 : Int) ≤ mq; decide⟩
set_option maxRecDepth 100000 in
set_option maxHeartbeats 8000000 in
theorem load_im (a : Option Addr) (n c : Nat) (l : List Lt) (w : World) (hlots : Lots w a l) (hn : l.length = n) (hn2 : n ≤ 1000) :
    Calls Try.prog 9 #[.slice a n c] w fun e w' => ∃ p, e = .returned (.tuple #[.pointer p, .int .i64 (loadE l)]) ∧ Hid (Below w.heap.size w w' ∧ (loadE l ≠ 0 → p = none) ∧ (loadE l = 0 → ∃ Q R, p = some ⟨Q, 0, none⟩ ∧ PT w' Q R (loadL l) ∧ w.heap.size ≤ Q)) := by
  obtain ⟨X, hX⟩ : ∃ X, w.alloc (.cells #[.slice none 0 0, .slice none 0 0] 64) = X := ⟨_, rfl⟩
  obtain ⟨Q, hQ⟩ : ∃ Q, w.heap.size = Q := ⟨_, rfl⟩
  have H0 : Hid (Filling w X Q l 0) := Lib.hid (by
    refine ⟨by rw [← hX]; exact (Below.refl _ w).alloc (Nat.le_refl _) _, by omega, fun k => k = Q, [], ?_, rfl, sofar_nil, Nat.le_refl _⟩
    rw [← hX, ← hQ]
    exact ⟨_, _, ⟨_, heap_alloc_new w _⟩, World.ownsRow_nil _ _ _ _, World.ownsRow_nil _ _ _ _, rfl, fun q hq => (by cases hq), fun q hq => (by cases hq), fun k hk => by subst hk; simp⟩)
  have HA := lots_at hlots; have HN := Lib.hid hn
  have hn3 : (n : Int) ≤ 1048576 := by omega
  clear hlots hn
  go_enter Try.func9, Try.ntmps9
  go_wp2_with fail
  clear hX hQ
  go_loopw [14] (fun t wr => ∃ i : Nat, t = .int .i64 i ∧ i ≤ n ∧ Hid (Filling w wr Q l i)) (fun t _ => n - (RowKit.intOf t).toNat)
  case atStart => exact ⟨0, rfl, by omega, H0⟩
  case round =>
    clear H0
    obtain ⟨i, rfl, hi, HF⟩ := hrel
    have hi0 : (0 : Int) ≤ (i : Int) := by omega
    by_cases hlt : i < n
    · have hlt2 : (i : Int) < (n : Int) := by omega
      obtain ⟨g, off, t, rfl, ht, k0, k1, k2, k3, k4⟩ := HA.out wr i HF.out.below (by rw [HN.out]; exact hlt)
      obtain ⟨U, Y, hU, hY, HU⟩ := box_lot wr t
      have hbY : Below wr.heap.size wr Y := by rw [← hY]; exact (Below.refl _ wr).alloc (Nat.le_refl _) _
      obtain ⟨⟨v0, v1, v2, v3, v4⟩, _⟩ := HU.out Y (Below.refl _ _)
      simp only [Nat.zero_add] at v0 v1 v2 v3 v4
      have HFY := Lib.hid (HF.out.under hbY)
      have HYD : Hid (Below Y.heap.size Y Y.drew) := Lib.hid (Below.refl _ Y).drew
      by_cases hok : MayB t.b ∧ 1 ≤ t.q ∧ t.q ≤ mq
      · have HI : Hid (Calls Try.prog 26 #[sV t] Y.drew fun e w' => e = .returned (.bool true) ∧ Hid (Below Y.heap.size Y w')) := Lib.hid (by
          have := islot_any t Y.drew
          rw [decide_eq_true hok] at this
          exact this.mono fun _ _ ⟨e, h⟩ => ⟨e, Lib.hid (below_then HYD.out h)⟩)
        obtain ⟨z, HZ, hz⟩ := fill_at HFY.out ht.out (by omega) hok
        clear hbY hok
        rcases hz with ⟨hz, hE⟩ | ⟨hz, HS⟩
        · have HE := Lib.hid hE
          have d1 : decide (0 < z) = true := decide_eq_true hz
          clear hE hz
          go_wp2_with fail
          clear hY hU k0 k1 k2 k3 k4
          go_region_held3 (fun W => W.cell? ⟨U, 0, none⟩ = some (.int .i64 t.b.o) ∧ W.cell? ⟨U, 1, none⟩ = some (.int .i64 t.b.d) ∧ W.cell? ⟨U, 2, none⟩ = some (.int .i64 t.b.p) ∧ W.cell? ⟨U, 3, none⟩ = some (.int .i64 t.b.t) ∧ W.cell? ⟨U, 4, none⟩ = some (.int .i64 t.q))
            (first | exact cells_lot (HU.out _ HYD.out).1 | exact cells_lot (HU.out _ G1.out).1 | exact cells_lot (HU.out _ G2.out).1)
            (first
              | (go_at_call 26; refine HI.out.mono ?_; rintro e w2 ⟨rfl, G1⟩)
              | (go_at_call 27; refine (HZ.out _ G1.out).mono ?_; rintro e w3 ⟨rfl, G2⟩))
          all_goals
            go_wp2_with fail
            go_ret2
            exact ⟨none, by rw [HE.out]; rfl, Lib.hid ⟨below_then HFY.out.below G2.out, fun _ => rfl, fun h => by rw [HE.out] at h; cases h⟩⟩
        · have d1 : decide (0 < z) = false := decide_eq_false hz
          clear hz
          go_wp2_with fail
          clear hY hU k0 k1 k2 k3 k4
          go_region_held3 (fun W => W.cell? ⟨U, 0, none⟩ = some (.int .i64 t.b.o) ∧ W.cell? ⟨U, 1, none⟩ = some (.int .i64 t.b.d) ∧ W.cell? ⟨U, 2, none⟩ = some (.int .i64 t.b.p) ∧ W.cell? ⟨U, 3, none⟩ = some (.int .i64 t.b.t) ∧ W.cell? ⟨U, 4, none⟩ = some (.int .i64 t.q))
            (first | exact cells_lot (HU.out _ HYD.out).1 | exact cells_lot (HU.out _ G1.out).1 | exact cells_lot (HU.out _ G2.out).1)
            (first
              | (go_at_call 26; refine HI.out.mono ?_; rintro e w2 ⟨rfl, G1⟩)
              | (go_at_call 27; refine (HZ.out _ G1.out).mono ?_; rintro e w3 ⟨rfl, G2⟩))
          all_goals
            obtain ⟨y0, y1, y2, y3, y4⟩ := cells_lot (HU.out _ G2.out).1
            go_wp2_with fail
            go_still_tail 7, (by kernel_rfl)
            change wpList _ _ _ _ _ w3.drew
            go_wp2_with (go_at_call 28; refine (HS.out _ G2.out.drew).mono ?_; rintro e w4 ⟨rfl, G3⟩)
            go_roundw
            case rel => exact ⟨i + 1, by go_num, by omega, G3⟩
            case measure => simp [RowKit.intOf]; omega
      · have HI : Hid (∀ W, Below Y.heap.size Y W → Calls Try.prog 26 #[sV t] W fun e w' => e = .returned (.bool false) ∧ Hid (Below Y.heap.size Y w')) := Lib.hid (fun W hW => by
          have := islot_any t W
          rw [decide_eq_false hok] at this
          exact this.mono fun _ _ ⟨e, h⟩ => ⟨e, Lib.hid (below_then hW h)⟩)
        have HE := Lib.hid (fill_bad HFY.out ht.out hok)
        clear hbY hok
        go_wp2_with fail
        clear hY hU k0 k1 k2 k3 k4
        refine wp_region_held_drew (S := fun W => W.cell? ⟨U, 0, none⟩ = some (.int .i64 t.b.o) ∧ W.cell? ⟨U, 1, none⟩ = some (.int .i64 t.b.d) ∧ W.cell? ⟨U, 2, none⟩ = some (.int .i64 t.b.p) ∧ W.cell? ⟨U, 3, none⟩ = some (.int .i64 t.b.t) ∧ W.cell? ⟨U, 4, none⟩ = some (.int .i64 t.q)) (by kernel_rfl) (cells_lot (HU.out _ HYD.out).1) (fun hHeld => ?_)
        refine wpAnyH_take (i := 0) (v := sV t) rfl (by kernel_rfl) (by kernel_rfl) (by kernel_rfl) (fun _ _ _ h => h) (Or.inl ⟨by rfl, fun V hSV => ?_⟩) (by assumption) ?_
        · obtain ⟨y0, y1, y2, y3, y4⟩ := hSV
          go_simp
        (try simp only [Act.put, List.getElem_toArray, List.getElem_cons_zero, List.setIfInBounds_toArray, List.set_cons_zero, List.set_cons_succ])
        refine wpAnyH_ready (rs := [1]) (by kernel_rfl) (by simp) ?_
        refine AllReadyH.cons (o := _) rfl (fun K hK => ?_) AllReadyH.nil
        go_simp
        refine (HI.out _ HYD.out).mono ?_
        rintro e w2 ⟨rfl, G1⟩
        (try dsimp only)
        refine hK.out _ _ (cells_lot (HU.out _ G1.out).1) (fun hHeld => ?_)
        clear hK K
        (try simp only [Act.put, List.getElem_toArray, List.getElem_cons_succ, List.getElem_cons_zero, List.setIfInBounds_toArray, List.set_cons_zero, List.set_cons_succ])
        refine wpAnyH_take (i := 2) (v := .bool true) rfl (by kernel_rfl) (by kernel_rfl) (by kernel_rfl) (fun _ _ _ h => h) (Or.inl ⟨by rfl, fun V hSV => ?_⟩) (by assumption) ?_
        · obtain ⟨y0, y1, y2, y3, y4⟩ := hSV
          go_simp
        (try simp only [Act.put, List.getElem_toArray, List.getElem_cons_succ, List.getElem_cons_zero, List.setIfInBounds_toArray, List.set_cons_zero, List.set_cons_succ])
        refine wpAnyH_take (i := 3) (v := .bool true) rfl (by kernel_rfl) (by kernel_rfl) (by kernel_rfl) (fun _ _ _ h => h) (Or.inl ⟨by rfl, fun V hSV => ?_⟩) (by assumption) ?_
        · obtain ⟨y0, y1, y2, y3, y4⟩ := hSV
          go_simp
        (try simp only [Act.put, List.getElem_toArray, List.getElem_cons_succ, List.getElem_cons_zero, List.setIfInBounds_toArray, List.set_cons_zero, List.set_cons_succ])
        refine wpAnyH_take (i := 4) (v := undef) rfl (by kernel_rfl) (by kernel_rfl) (by kernel_rfl) (fun _ _ _ h => h) (Or.inr ⟨by kernel_rfl, rfl⟩) (by assumption) ?_
        (try simp only [Act.put, List.getElem_toArray, List.getElem_cons_succ, List.getElem_cons_zero, List.setIfInBounds_toArray, List.set_cons_zero, List.set_cons_succ])
        refine wpAnyH_take (i := 5) (v := undef) rfl (by kernel_rfl) (by kernel_rfl) (by kernel_rfl) (fun _ _ _ h => h) (Or.inr ⟨by kernel_rfl, rfl⟩) (by assumption) ?_
        (try simp only [Act.put, List.getElem_toArray, List.getElem_cons_succ, List.getElem_cons_zero, List.setIfInBounds_toArray, List.set_cons_zero, List.set_cons_succ])
        refine wpAnyH_take (i := 6) (v := undef) rfl (by kernel_rfl) (by kernel_rfl) (by kernel_rfl) (fun _ _ _ h => h) (Or.inr ⟨by kernel_rfl, rfl⟩) (by assumption) ?_
        (try simp only [Act.put, List.getElem_toArray, List.getElem_cons_succ, List.getElem_cons_zero, List.setIfInBounds_toArray, List.set_cons_zero, List.set_cons_succ])
        refine wpAnyH_take (i := 7) (v := undef) rfl (by kernel_rfl) (by kernel_rfl) (by kernel_rfl) (fun _ _ _ h => h) (Or.inr ⟨by kernel_rfl, rfl⟩) (by assumption) ?_
        (try simp only [Act.put, List.getElem_toArray, List.getElem_cons_succ, List.getElem_cons_zero, List.setIfInBounds_toArray, List.set_cons_zero, List.set_cons_succ])
        refine wpAnyH_take (i := 8) (v := undef) rfl (by kernel_rfl) (by kernel_rfl) (by kernel_rfl) (fun _ _ _ h => h) (Or.inr ⟨by kernel_rfl, rfl⟩) (by assumption) ?_
        (try simp only [Act.put, List.getElem_toArray, List.getElem_cons_succ, List.getElem_cons_zero, List.setIfInBounds_toArray, List.set_cons_zero, List.set_cons_succ])
        refine wpAnyH_take (i := 9) (v := undef) rfl (by kernel_rfl) (by kernel_rfl) (by kernel_rfl) (fun _ _ _ h => h) (Or.inr ⟨by kernel_rfl, rfl⟩) (by assumption) ?_
        (try simp only [Act.put, List.getElem_toArray, List.getElem_cons_succ, List.getElem_cons_zero, List.setIfInBounds_toArray, List.set_cons_zero, List.set_cons_succ])
        refine wpAnyH_take (i := 10) (v := undef) rfl (by kernel_rfl) (by kernel_rfl) (by kernel_rfl) (fun _ _ _ h => h) (Or.inr ⟨by kernel_rfl, rfl⟩) (by assumption) ?_
        (try simp only [Act.put, List.getElem_toArray, List.getElem_cons_succ, List.getElem_cons_zero, List.setIfInBounds_toArray, List.set_cons_zero, List.set_cons_succ])
        refine wpAnyH_take (i := 11) (v := .bool true) rfl (by kernel_rfl) (by kernel_rfl) (by kernel_rfl) (fun _ _ _ h => h) (Or.inl ⟨by rfl, fun V hSV => ?_⟩) (by assumption) ?_
        · obtain ⟨y0, y1, y2, y3, y4⟩ := hSV
          go_simp
        (try simp only [Act.put, List.getElem_toArray, List.getElem_cons_succ, List.getElem_cons_zero, List.setIfInBounds_toArray, List.set_cons_zero, List.set_cons_succ])
        refine wpAnyH_done (by kernel_rfl) ?_ _
        go_wp2_with fail
        go_ret2
        exact ⟨none, by rw [HE.out]; rfl, Lib.hid ⟨below_then HFY.out.below G1.out, fun _ => rfl, fun h => by rw [HE.out] at h; cases h⟩⟩
    · obtain rfl : i = n := by omega
      obtain ⟨A, hA⟩ : ∃ A, wr.heap.size = A := ⟨_, rfl⟩
      obtain ⟨Z, hZ⟩ : ∃ Z, wr.alloc (.cells #[.int .i64 0, .int .i64 0, .int .i64 0, .int .i64 0, .int .i64 0, .int .i64 0, .int .i64 0, .int .i64 0, .int .i64 0, .int .i64 0, .int .i64 0, .int .i64 0, .int .i64 0, .int .i64 0, .int .i64 0, .int .i64 0, .int .i64 0, .int .i64 0, .int .i64 0, .int .i64 0, .int .i64 0, .int .i64 0, .int .i64 0, .int .i64 0, .int .i64 0, .int .i64 0, .int .i64 0, .int .i64 0, .int .i64 0, .int .i64 0, .int .i64 0, .int .i64 0, .int .i64 0] 69) = Z := ⟨_, rfl⟩
      have HSU : Hid (Summing w Z Q l A 0) := Lib.hid (by rw [← hZ, ← hA]; exact (HF.out.full HN.out).summing _)
      clear HF
      go_wp2_with fail
      clear hZ hA
      go_loopw [41] (fun t wx => ∃ j : Nat, t = .int .i64 j ∧ j ≤ i ∧ Hid (Summing w wx Q l A j)) (fun t _ => i - (RowKit.intOf t).toNat)
      case atStart => exact ⟨0, rfl, by omega, HSU⟩
      case round =>
        clear HSU
        obtain ⟨j, rfl, hj, HS⟩ := hrel
        have hj0 : (0 : Int) ≤ (j : Int) := by omega
        by_cases hlt : j < i
        · have hlt2 : (j : Int) < (i : Int) := by omega
          obtain ⟨g, off, ⟨⟨eo, ed, ep, et⟩, en⟩, rfl, ht, k0, k1, k2, k3, k4⟩ := HA.out wr j HS.out.below (by rw [HN.out]; exact hlt)
          have hok := HS.out.full.lots _ (List.mem_of_getElem? ht.out)
          obtain ⟨k, rfl⟩ : ∃ k : Nat, et = (k : Int) := ⟨et.toNat, by have := hok.1.2.2.2; dsimp only at this; omega⟩
          have hk3 : k < 33 := by have := hok.1.2.2.2; dsimp only at this; omega
          have hk0 : (0 : Int) ≤ (k : Int) := by omega
          have hk1 : (k : Int) < 33 := by omega
          obtain ⟨U, Y, hU, hY, HU⟩ := box_lot wr ⟨⟨eo, ed, ep, k⟩, en⟩
          have hbY : Below wr.heap.size wr Y := by rw [← hY]; exact (Below.refl _ wr).alloc (Nat.le_refl _) _
          have HSY := Lib.hid (HS.out.under hbY)
          obtain ⟨_, _, _, v3, v4⟩ := cells_lot (HU.out Y (Below.refl _ _)).1
          obtain ⟨u0, u1⟩ := HSY.out.sums k hk3
          have hz0 := (tot_take_le (l := l) (fun a ha => by have := (HS.out.full.lots a ha).2.1; omega) j (k : Int)).1
          have hz1 := HS.out.most (k : Int)
          have hts := tot_take_succ ht.out (k : Int)
          dsimp only at hts v3 v4 hok
          rw [if_pos rfl] at hts
          have htl := (tot_take_le (l := l) (fun a ha => by have := (HS.out.full.lots a ha).2.1; omega) (j + 1) (k : Int)).2
          obtain ⟨z, hz⟩ : ∃ z, tot (l.take j) (k : Int) = z := ⟨_, rfl⟩
          rw [hz] at u0 hz0 hz1 hts
          by_cases hov : en ≤ mq - z
          · have HR : Hid (∀ W, Calls Try.prog 29 #[.int .i64 z, .int .i64 en] W fun e w' => e = .returned (.bool true) ∧ W = w') := Lib.hid (fun W => by
              have := room_any z en W hz0 hz1
              rw [decide_eq_true hov] at this
              exact this)
            obtain ⟨s, hs⟩ : ∃ s, z + en = s := ⟨_, rfl⟩
            have hw : IntKind.i64.wrap (z + en) = s := by rw [hs]; exact IntWalk.i64_in _ (by unfold mq at *; omega)
            have hw2 : wrap64 s = s := IntWalk.wrap64_in _ (by unfold mq at *; omega)
            have HST : Hid (∀ m, Summing w ((Y.drewN m).setCell ⟨A, k, none⟩ (.int .i64 s)).drew Q l A (j + 1)) := Lib.hid (fun m => ((HSY.out.under (below_drewN (Below.refl _ Y) m)).store ht.out rfl hk3 (by rw [hz]; exact hs) (by omega)).under (Below.refl _ _).drew)
            clear hbY hok hts htl hz hz0 hz1 hov
            go_wp2_with fail
            clear hY hU k0 k1 k2 k3 k4
            have Q1 := Lib.hid (fun k => quiet_same (HR.out (Y.drewN k)))
            go_quiet (first | (go_at_call 29; with_reducible (exact Q1.out _)))
            go_wp2_with fail
            generalize hY2 : World.drewN _ _ = Y2
            have w3 : Y2.cell? ⟨U, 3, none⟩ = some (.int .i64 (k : Int)) := by rw [← hY2]; exact v3
            have w4 : Y2.cell? ⟨U, 4, none⟩ = some (.int .i64 en) := by rw [← hY2]; exact v4
            have x0 : Y2.cell? ⟨A, k, none⟩ = some (.int .i64 z) := by rw [← hY2]; exact u0
            have x1 : Y2.frozen? ⟨A, k, none⟩ = false := by rw [← hY2]; exact u1
            have HS2 : Hid (Summing w (Y2.setCell ⟨A, k, none⟩ (.int .i64 s)).drew Q l A (j + 1)) := Lib.hid (by
              rw [← hY2]
              exact HST.out _)
            clear hY2 v3 v4 u0 u1
            go_region
            go_wp2_with fail
            go_roundw
            case rel => exact ⟨j + 1, by go_num, by omega, HS2⟩
            case measure => simp [RowKit.intOf]; omega
          · have HR : Hid (∀ W, Calls Try.prog 29 #[.int .i64 z, .int .i64 en] W fun e w' => e = .returned (.bool false) ∧ W = w') := Lib.hid (fun W => by
              have := room_any z en W hz0 hz1
              rw [decide_eq_false hov] at this
              exact this)
            have HE := Lib.hid (HS.out.full.over (k := (k : Int)) (by omega))
            have HB := Lib.hid HSY.out.below
            clear hbY hok hts htl hz hz0 hz1 hov
            go_wp2_with fail
            clear hY hU k0 k1 k2 k3 k4
            have Q1 := Lib.hid (fun k => quiet_same (HR.out (Y.drewN k)))
            go_quiet (first | (go_at_call 29; with_reducible (exact Q1.out _)))
            go_wp2_with fail
            go_ret2
            exact ⟨none, by rw [HE.out]; rfl, Lib.hid ⟨below_drewN HB.out _, fun _ => rfl, fun h => by rw [HE.out] at h; cases h⟩⟩
        · obtain rfl : j = i := by omega
          have HE := Lib.hid (HS.out.full.fine (fun k => by
            have := HS.out.most k
            rw [List.take_of_length_le (by rw [HN.out]; exact Nat.le_refl _)] at this
            exact this))
          go_wp2_with fail
          go_ret2
          obtain ⟨e1, R, e2⟩ := HE.out
          exact ⟨some ⟨Q, 0, none⟩, by rw [e1]; rfl, Lib.hid ⟨HS.out.below, fun h => absurd e1 h, fun _ => ⟨Q, R, rfl, e2, HS.out.new⟩⟩⟩
end Go.Proofs.Ytkljaaeeocghjaa.Bins
namespace Go.Proofs.Ytkljaaeeocghjaa.Bins
open Go.RowKit Go.Lib
open Goods (St Sts)

/-! nil bins -/
theorem box_below (w : World) (x : Bn) : Below w.heap.size w (w.alloc (.cells #[.int .i64 x.o, .int .i64 x.d, .int .i64 x.p, .int .i64 x.t] 25)) := (Below.refl _ w).alloc (Nat.le_refl _) _
set_option maxRecDepth 100000 in
theorem qty_nil (x : Bn) (w : World) : Calls Try.prog 15 #[.pointer none, bV x] w fun e w' => e = .returned (.int .i64 0) ∧ Below w.heap.size w w' := by
  have HB := Lib.hid (box_below w x)
  go_enter Try.func15, Try.ntmps15
  go_wp2_with fail
  go_ret
  exact ⟨rfl, HB.out⟩
set_option maxRecDepth 100000 in
theorem put_nil (x : Bn) (n : Int) (w : World) : Calls Try.prog 25 #[.pointer none, bV x, .int .i64 n] w fun e w' => e = .returned (.int .i64 1) ∧ Below w.heap.size w w' := by
  have HB := Lib.hid (box_below w x)
  go_enter Try.func25, Try.ntmps25
  go_wp2_with fail
  go_ret
  exact ⟨rfl, HB.out⟩
set_option maxRecDepth 100000 in
theorem take_nil (x : Bn) (n : Int) (w : World) : Calls Try.prog 24 #[.pointer none, bV x, .int .i64 n] w fun e w' => e = .returned (.int .i64 1) ∧ Below w.heap.size w w' := by
  have HB := Lib.hid (box_below w x)
  go_enter Try.func24, Try.ntmps24
  go_wp2_with fail
  go_ret
  exact ⟨rfl, HB.out⟩
set_option maxRecDepth 100000 in
theorem total_nil (k : Int) (w : World) : Calls Try.prog 17 #[.pointer none, .int .i64 k] w fun e w' => e = .returned (.int .i64 0) ∧ Below w.heap.size w w' := by
  have HB : Hid (Below w.heap.size w (w.alloc (.cells #[.int .i64 k] 3))) := Lib.hid ((Below.refl _ w).alloc (Nat.le_refl _) _)
  go_enter Try.func17, Try.ntmps17
  go_wp2_with fail
  go_ret
  exact ⟨rfl, HB.out⟩
set_option maxRecDepth 100000 in
theorem list_nil (w : World) : Calls Try.prog 14 #[.pointer none] w fun e w' => ∃ a c, e = .returned (.slice a 0 c) ∧ Below w.heap.size w w' := by
  go_enter Try.func14, Try.ntmps14
  go_wp2_with fail
  go_ret
  exact ⟨_, _, rfl, Below.refl _ _⟩
set_option maxRecDepth 100000 in
theorem of_nil (x : Bn) (w : World) : Calls Try.prog 20 #[.pointer none, bV x] w fun e w' => ∃ a c, e = .returned (.slice a 0 c) ∧ Below w.heap.size w w' := by
  have HB := Lib.hid (box_below w x)
  go_enter Try.func20, Try.ntmps20
  go_wp2_with fail
  go_ret
  exact ⟨_, _, rfl, HB.out⟩
set_option maxRecDepth 100000 in
theorem each_nil (x : Bn) (b : Option Addr) (m d : Nat) (f : Value) (w : World) : Calls Try.prog 46 #[.pointer none, bV x, .slice b m d, f] w fun e w' => e = .returned (.int .i64 1) ∧ Below w.heap.size w w' := by
  have HB := Lib.hid (box_below w x)
  go_enter Try.func46, Try.ntmps46
  go_wp2_with fail
  go_ret
  exact ⟨rfl, HB.out⟩
set_option maxRecDepth 100000 in
theorem puts_nil (x : Bn) (b : Option Addr) (m d : Nat) (w : World) : Calls Try.prog 23 #[.pointer none, bV x, .slice b m d] w fun e w' => e = .returned (.int .i64 1) ∧ Below w.heap.size w w' := by
  obtain ⟨V, X, hV, hX, HP⟩ := box_bin w x
  have hXB : Below w.heap.size w X := by rw [← hX]; exact (Below.refl _ w).alloc (Nat.le_refl _) _
  have HC : Hid (∀ f, Calls Try.prog 46 #[.pointer none, bV x, .slice b m d, f] X fun e w' => e = .returned (.int .i64 1) ∧ Hid (Below w.heap.size w w')) := Lib.hid fun f => (each_nil x b m d f X).mono fun _ _ ⟨e, h⟩ => ⟨e, Lib.hid (below_then hXB h)⟩
  obtain ⟨⟨b0, b1, b2, b3⟩, _⟩ := HP.out X (Below.refl _ _)
  clear hXB
  go_enter Try.func23, Try.ntmps23
  go_wp2_with fail
  clear hX hV
  refine (HC.out _).mono ?_
  rintro e w1 ⟨rfl, H1⟩
  go_wp2_with fail
  go_ret
  exact ⟨rfl, H1.out⟩
set_option maxRecDepth 100000 in
theorem takes_nil (x : Bn) (b : Option Addr) (m d : Nat) (w : World) : Calls Try.prog 38 #[.pointer none, bV x, .slice b m d] w fun e w' => e = .returned (.int .i64 1) ∧ Below w.heap.size w w' := by
  obtain ⟨V, X, hV, hX, HP⟩ := box_bin w x
  have hXB : Below w.heap.size w X := by rw [← hX]; exact (Below.refl _ w).alloc (Nat.le_refl _) _
  have HC : Hid (∀ f, Calls Try.prog 46 #[.pointer none, bV x, .slice b m d, f] X fun e w' => e = .returned (.int .i64 1) ∧ Hid (Below w.heap.size w w')) := Lib.hid fun f => (each_nil x b m d f X).mono fun _ _ ⟨e, h⟩ => ⟨e, Lib.hid (below_then hXB h)⟩
  obtain ⟨⟨b0, b1, b2, b3⟩, _⟩ := HP.out X (Below.refl _ _)
  clear hXB
  go_enter Try.func38, Try.ntmps38
  go_wp2_with fail
  clear hX hV
  refine (HC.out _).mono ?_
  rintro e w1 ⟨rfl, H1⟩
  go_wp2_with fail
  go_ret
  exact ⟨rfl, H1.out⟩
set_option maxRecDepth 100000 in
set_option maxHeartbeats 1000000 in
theorem move_nil (x y : Bn) (n : Int) (w : World) : Calls Try.prog 37 #[.pointer none, bV x, bV y, .int .i64 n] w fun e w' => e = .returned (.int .i64 1) ∧ Below w.heap.size w w' := by
  obtain ⟨V, X, hV, hX, HP0⟩ := box_bin w x
  obtain ⟨U, Y, hU, hY, HP1⟩ := box_bin X y
  have hXB : Below w.heap.size w X := by rw [← hX]; exact (Below.refl _ w).alloc (Nat.le_refl _) _
  have hYB : Below X.heap.size X Y := by rw [← hY]; exact (Below.refl _ X).alloc (Nat.le_refl _) _
  have HYB : Hid (Below w.heap.size w Y) := Lib.hid (below_then hXB hYB)
  have HP : Hid (∀ W, Below Y.heap.size Y W → CellsB W V x ∧ CellsB W U y) := Lib.hid (fun W hW => ⟨(HP0.out W (below_then hYB hW)).1, (HP1.out W hW).1⟩)
  obtain ⟨⟨b0, b1, b2, b3⟩, c0, c1, c2, c3⟩ := HP.out Y (Below.refl _ _)
  have HI := isbin_at y Y
  have HT : Hid (∀ W, Below Y.heap.size Y W → Calls Try.prog 24 #[.pointer none, bV x, .int .i64 n] W fun e w' => e = .returned (.int .i64 1) ∧ Hid (Below w.heap.size w w')) := Lib.hid (fun W hW => (take_nil x n W).mono fun _ _ ⟨e, h⟩ => ⟨e, Lib.hid (below_then HYB.out (below_then hW h))⟩)
  clear hXB hYB
  by_cases hm : MayB y
  case neg =>
    have HM := Lib.hid (HI.out Y (Below.refl _ _) false (decide_eq_false hm))
    clear hm
    go_enter Try.func37, Try.ntmps37
    go_wp2_with fail
    clear hX hV hY hU
    refine HM.out.mono ?_
    rintro e w1 ⟨rfl, H1⟩
    go_wp2_with fail
    go_ret
    exact ⟨rfl, below_then HYB.out H1.out⟩
  have HM := Lib.hid (HI.out Y (Below.refl _ _) true (decide_eq_true hm))
  clear hm
  by_cases ht : x.t = y.t
  case neg =>
    have d1 : (x.t == y.t) = false := by simpa using ht
    have d2 : (x.t != y.t) = true := by simpa using ht
    clear ht
    go_enter Try.func37, Try.ntmps37
    go_wp2_with fail
    clear hX hV hY hU
    refine HM.out.mono ?_
    rintro e w1 ⟨rfl, H1⟩
    obtain ⟨⟨_, _, _, x3⟩, _, _, _, y3⟩ := HP.out w1 H1.out
    clear b0 b1 b2 b3 c0 c1 c2 c3
    go_wp2_with fail
    go_ret
    exact ⟨rfl, below_then HYB.out H1.out⟩
  obtain ⟨yo, yd, yp, yt⟩ := y
  dsimp only at ht c0 c1 c2 c3
  subst ht
  go_enter Try.func37, Try.ntmps37
  go_wp2_with fail
  clear hX hV hY hU
  refine HM.out.mono ?_
  rintro e w1 ⟨rfl, H1⟩
  obtain ⟨⟨x0, x1, x2, x3⟩, y0, y1, y2, y3⟩ := HP.out w1 H1.out
  dsimp only at y0 y1 y2 y3
  clear b0 b1 b2 b3 c0 c1 c2 c3
  go_wp2_with fail
  refine (HT.out _ H1.out).mono ?_
  rintro e w2 ⟨rfl, H2⟩
  go_wp2_with fail
  go_ret
  exact ⟨rfl, H2.out⟩
theorem pt_new (w : World) : PT (w.alloc (.cells #[.slice none 0 0, .slice none 0 0] 64)) w.heap.size (fun k => k = w.heap.size) [] :=
  ⟨_, _, ⟨_, heap_alloc_new w _⟩, World.ownsRow_nil _ _ _ _, World.ownsRow_nil _ _ _ _, rfl, fun q hq => (by cases hq), fun q hq => (by cases hq), fun k hk => by subst hk; simp⟩
set_option maxRecDepth 100000 in
theorem clone_nil (w : World) : Calls Try.prog 22 #[.pointer none] w fun e w' => ∃ Q, e = .returned (ptr Q) ∧ ∃ R, PT w' Q R [] ∧ Below w.heap.size w w' ∧ w.heap.size ≤ Q := by
  have HP := Lib.hid (pt_new w)
  have HB : Hid (Below w.heap.size w (w.alloc (.cells #[.slice none 0 0, .slice none 0 0] 64))) := Lib.hid ((Below.refl _ w).alloc (Nat.le_refl _) _)
  go_enter Try.func22, Try.ntmps22
  go_wp2_with fail
  go_ret
  exact ⟨_, rfl, _, HP.out, HB.out, Nat.le_refl _⟩
/-! all of it -/
def PQ (w : World) (Q : Nat) (F R : Nat → Prop) (l : List Lt) : Prop := F = (fun k => k = Q) ∧ PT w Q R l
theorem pq_up {w w' : World} {Q : Nat} {F R R' : Nat → Prop} {l l' : List Lt} (h : PQ w Q F R l) (h1 : PT w' Q R' l') (h2 : Up w w' Q R R') : ∃ F' R', PQ w' Q F' R' l' ∧ StepF w w' F F' := by
  obtain ⟨rfl, _⟩ := h
  exact ⟨_, R', ⟨rfl, h1⟩, h2.step⟩
theorem pq_below {w w' : World} {Q : Nat} {F R : Nat → Prop} {l : List Lt} (h : PQ w Q F R l) (hb : Below w.heap.size w w') : ∃ F' R', PQ w' Q F' R' l ∧ StepF w w' F F' := ⟨F, R, ⟨h.1, h.2.under hb⟩, StepF.below _ hb⟩
noncomputable def impl : Impl where
  PQ := PQ
  lt := fun {w Q F R l} h k hk => by
    obtain ⟨rfl, h⟩ := h
    rcases hk with rfl | hk
    · exact h.lt _ h.self
    · exact h.lt k hk
  keep := fun {w w' Q F R l} h hs hk => ⟨h.1, h.2.keep hs fun k hr => hk k (.inr hr)⟩
  zero := fun w => ⟨rfl, pt_new w⟩
  load := fun a n c l w h hn hn2 _ => (load_im a n c l w h hn hn2).mono fun _ _ ⟨p, e, H⟩ => ⟨p, e, H.out.1, H.out.2.1, fun h0 => by
    obtain ⟨Q, R, h1, h2, h3⟩ := H.out.2.2 h0
    exact ⟨Q, _, R, h1, ⟨rfl, h2⟩, fun k hk => by subst hk; exact h3⟩⟩
  qty := fun x w h hg hl _ => (qty_im x w h.2 hg hl).mono fun _ _ ⟨e, hb⟩ => ⟨e, pq_below h hb⟩
  put := fun x n w h hg hl _ hn => (put_im x n w h.2 hg hl hn.2).mono fun _ _ ⟨e, _, h1, h2⟩ => ⟨e, pq_up h h1 h2⟩
  take := fun x n w h hg hl _ _ => (take_im x n w h.2 hg hl).mono fun _ _ ⟨e, _, h1, h2⟩ => ⟨e, pq_up h h1 h2⟩
  move := fun x y n w h hg hl _ _ hn => (move_im x y n w h.2 hg hl hn.2).mono fun _ _ ⟨e, _, h1, h2⟩ => ⟨e, pq_up h h1 h2⟩
  puts := fun x b m d s w h hg hl _ hs hm hm2 hI _ => (puts_im x b m d s w h.2 hg hl hs hm hm2 (fun t ht => (hI t ht).2.2)).mono fun _ _ ⟨e, _, h1, h2⟩ => ⟨e, pq_up h h1 h2⟩
  takes := fun x b m d s w h hg hl _ hs hm hm2 hI _ => (takes_im x b m d s w h.2 hg hl hs hm hm2 (fun t ht => (hI t ht).2.2)).mono fun _ _ ⟨e, _, h1, h2⟩ => ⟨e, pq_up h h1 h2⟩
  of_ := fun {Q F R l} x w h hg hl _ => (of_im x w h.2 hg hl).mono fun _ _ ⟨v, e, ho, hb⟩ => by
    obtain ⟨a, n, c, rfl⟩ : ∃ a n c, v = .slice a n c := by
      rcases ho.2 with ⟨h1, _⟩ | ⟨g, cap, cur, h1, _⟩
      · exact ⟨_, _, _, h1⟩
      · exact ⟨_, _, _, h1⟩
    exact ⟨a, n, c, e, F, R, ⟨h.1, h.2.under hb⟩, StepF.below _ hb, ho⟩
  total := fun k w h hg hl _ => (total_im k w h.2 hg hl).mono fun _ _ ⟨e, hb⟩ => ⟨e, pq_below h hb⟩
  list := fun {Q F R l} w h _ hl => (list_im w h.2 hl).mono fun _ _ ⟨v, e, ho, hb⟩ => by
    obtain ⟨a, c, rfl, _, _, _, _⟩ := rowL ho
    refine ⟨a, _, c, e, F, R, ⟨h.1, h.2.under hb⟩, StepF.below _ hb, ho, fun k hk hf => ?_⟩
    have h1 := (ho.lt k hk).1
    rw [h.1] at hf
    have h2 := h.2.lt Q h.2.self
    have h3 : k = Q := hf
    omega
  clone := fun {Q F R l} w h _ _ => (clone_im w h.2).mono fun _ _ ⟨Q2, e, R2, h1, h2, hb, h3⟩ => by
    have hq := h.2.lt Q h.2.self
    refine ⟨Q2, e, fun k => k = Q2, R2, F, R, ⟨h.1, h.2.under hb⟩, StepF.below _ hb, ⟨rfl, h1⟩, fun k hk => by subst hk; exact h2, fun k hk hf => ?_⟩
    rw [h.1] at hf
    have hf2 : k = Q := hf
    rcases hk with hk | hk
    · have : k = Q2 := hk
      omega
    · rcases h3 k hk with h4 | h4
      · exact h4.2 hf2
      · omega
  n_qty := qty_nil
  n_put := put_nil
  n_take := take_nil
  n_move := move_nil
  n_puts := fun x b m d _ w _ _ _ _ => puts_nil x b m d w
  n_takes := fun x b m d _ w _ _ _ _ => takes_nil x b m d w
  n_total := total_nil
  n_list := list_nil
  n_of := of_nil
  n_clone := fun w => (clone_nil w).mono fun _ _ ⟨Q, e, R, h1, hb, h2⟩ => ⟨Q, e, _, R, ⟨rfl, h1⟩, hb, fun k hk => by subst hk; exact h2⟩
end Go.Proofs.Ytkljaaeeocghjaa.Bins
