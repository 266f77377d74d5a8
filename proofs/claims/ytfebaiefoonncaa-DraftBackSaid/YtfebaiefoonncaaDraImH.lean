/- The program's Copies. -/
import Derived.Test.YtfebaiefoonncaaDraImG
import Derived.Test.YtfebaiefoonncaaDraImD
namespace Go.Proofs.Ytfebaiefoonncaa.Draft
open Go.RowKit Go.Lib IRows

/-- Numbers from one on, rising. -/
def nums : Nat → Int → List Int
  | 0, _ => []
  | n + 1, z => nums n z ++ [z + n + 1]
theorem nums_length : ∀ (n : Nat) (z : Int), (nums n z).length = n
  | 0, _ => rfl
  | n + 1, z => by rw [nums, List.length_append, nums_length n z]; rfl
theorem nums_at : ∀ (n : Nat) (z : Int) (k : Nat), k < n → (nums n z)[k]? = some (z + k + 1)
  | n + 1, z, k, h => by
    rw [nums]
    by_cases e : k = n
    · subst e
      rw [List.getElem?_append_right (by rw [nums_length]; exact Nat.le_refl _), nums_length, Nat.sub_self]
      rfl
    · rw [List.getElem?_append_left (by rw [nums_length]; omega)]
      exact nums_at n z k (by omega)
/-- While copies are made: the drafts with those that there are, the draft that is copied, and the numbers. -/
def Cop (w W : World) (Q T : Nat) (F : Nat → Prop) (l : List Dr) (z : Int) (cp : Dr) (i : Nat) (v : Value) : Prop :=
  ∃ G, DP W Q G (l ++ more cp i z) (z + i) ∧ Up w W Q F G ∧ KS W w.heap.size v (nums i z) ∧ Has W T cp ∧ w.heap.size ≤ T ∧ ¬ G T ∧ (∀ j, v.ownBlock = some j → ¬ G j ∧ j ≠ T)
theorem Cop.under {w W W' : World} {Q T : Nat} {F : Nat → Prop} {l : List Dr} {z : Int} {cp : Dr} {i : Nat} {v : Value} (h : Cop w W Q T F l z cp i v) (hb : Below W.heap.size W W') : Cop w W' Q T F l z cp i v := by
  obtain ⟨G, h1, h2, h3, h4, h5, h6, h7⟩ := h
  exact ⟨G, h1.under hb, h2.trans (Up.of_below hb), h3.under hb, (hb.block T (Array.getElem?_eq_some_iff.1 h4).1).trans h4, h5, h6, h7⟩
theorem cop_step {w W : World} {Q T : Nat} {F : Nat → Prop} {l : List Dr} {z : Int} {cp : Dr} {i : Nat} {a : Option Addr} {cc : Nat} (h : Cop w W Q T F l z cp i (.slice a i cc)) (hg : Good l z) (hok : Ok cp) (hl : l.length + (i + 1) ≤ 64) (hz : z + (i + 1) < mt) :
    Calls Try.prog 27 #[ptr Q, elV cp] W fun e w' => e = .returned (.int .i64 (z + i + 1)) ∧ ∃ a' c' W3, Hid ((Builtin.append_ #[32, 32] 32 #[.slice a i cc, .slice (some ⟨w'.heap.size, 0, none⟩) 1 1]).run Try.prog (w'.alloc (.cells #[.int .i64 (z + i + 1)] 3)) = .ok (.slice a' (i + 1) c') W3) ∧ Hid (Cop w W3 Q T F l z cp (i + 1) (.slice a' (i + 1) c')) := by
  obtain ⟨G, h1, h2, h3, h4, h5, h6, h7⟩ := h
  have hg2 := good_more hg hok i (by omega) (by omega)
  have hll : (l ++ more cp i z).length = l.length + i := by rw [List.length_append, more_length]
  refine (add_is cp W h1 hg2 hok (by omega) (by omega)).mono ?_
  rintro e w' ⟨rfl, G', g1, g2⟩
  refine ⟨rfl, ?_⟩
  have k3 : KS w' w.heap.size (.slice a i cc) (nums i z) := h3.moved fun k hk => g2.grown.block k (h3.lt k hk).2 (by
    intro e
    cases e
    exact (h7 _ hk).1 h1.self)
  have hT : T < W.heap.size := (Array.getElem?_eq_some_iff.1 h4).1
  have k4 : Has w' T cp := (g2.grown.block T hT (by intro e; cases e; exact h6 h1.self)).trans h4
  have hG : ∀ j, j < W.heap.size → ¬ G j → ¬ G' j := fun j hj hn hg => by
    rcases g2.more j hg with h | h
    · exact hn h
    · omega
  have hs : w.heap.size ≤ w'.heap.size := Nat.le_trans h2.grown.size g2.grown.size
  obtain ⟨g, cap, W3, hr, o1, o2, o3, o4, o5⟩ := app_int w' w.heap.size (.slice a i cc) (nums i z) (z + i + 1) k3 (by rw [nums_length]; omega) hs
  rw [nums_length] at hr o1
  have hown : ∀ j, (Value.slice a i cc).ownBlock = some j → ¬ G' j ∧ j ≠ T := fun j hj => ⟨hG j (h3.lt j hj).2 (h7 j hj).1, (h7 j hj).2⟩
  have hTn : (Value.slice a i cc).ownBlock ≠ some T := fun e => (h7 T e).2 rfl
  have hkeep : ∀ j, G' j → W3.heap[j]? = w'.heap[j]? := fun j hj => o3 j (g1.lt j hj) fun e => (hown j e).1 hj
  have e1 : more cp (i + 1) z = more cp i z ++ [{ cp with id := z + i + 1 }] := more_snoc cp i z
  have e2 : z + ((i + 1 : Nat) : Int) = z + i + 1 := by omega
  have hgl : g < W3.heap.size := o5
  refine ⟨_, cap, W3, Lib.hid hr, Lib.hid ⟨G', ?_, ?_, ?_, ?_, h5, hG T hT h6, fun j hj => ?_⟩⟩
  · rw [e1, e2, ← List.append_assoc]
    exact g1.keep o2.size hkeep
  · have h8 := h2.trans g2
    exact ⟨⟨o2.os.trans h8.grown.os, o2.tape.trans h8.grown.tape, o2.output.trans h8.grown.output, Nat.le_trans hs o2.size, fun k hk hne => (o2.block k hk).trans (h8.grown.block k hk hne)⟩, h8.more⟩
  · show World.ownsRow _ _ _ _ _ _ _
    exact o1
  · exact (o3 T (Array.getElem?_eq_some_iff.1 k4).1 hTn).trans k4
  · obtain rfl : g = j := Option.some.inj hj
    rcases o4 with h | h
    · exact hown _ h
    · refine ⟨fun hg => ?_, fun e => ?_⟩
      · have := g1.lt _ hg
        omega
      · have := (Array.getElem?_eq_some_iff.1 k4).1
        omega

theorem cop_none {l : List Dr} {z i c r : Int} (h : find l i = none) : copE l z i c r = 3 := by unfold copE; rw [h]
theorem cop_some {l : List Dr} {z i c r : Int} {d : Dr} (h : find l i = some d) : copE l z i c r = (if (1 ≤ c ∧ c ≤ 10) ∧ 1 ≤ r ∧ r ≤ 1000 then if d.runs = -1 then if (l.length : Int) + c ≤ 64 ∧ z + c < mt then 0 else 4 else 9 else 1) := by unfold copE; rw [h]
theorem copL_zero {l : List Dr} {z i c r : Int} {d : Dr} (h : find l i = some d) (he : copE l z i c r = 0) : copL l z i c r = l ++ more (copy d r) c.toNat z ∧ copZ l z i c r = z + c := by
  unfold copL copZ
  rw [h]
  exact ⟨if_pos he, if_pos he⟩
/-- What Copies answers: an error and no numbers, or the numbers. -/
def CopR (l : List Dr) (z i c r : Int) (w w' : World) (Q : Nat) (F : Nat → Prop) (v : Value) (n : Nat) : Prop :=
  (copE l z i c r = 0 → n = c.toNat ∧ KS w' w.heap.size v (nums c.toNat z)) ∧ (copE l z i c r ≠ 0 → n = 0) ∧ ∃ F', DP w' Q F' (copL l z i c r) (copZ l z i c r) ∧ Up w w' Q F F'
theorem copR_no {l : List Dr} {z i c r : Int} {w w' : World} {Q : Nat} {F : Nat → Prop} {v : Value} (he : copE l z i c r ≠ 0) (h : DP w' Q F l z) (hu : Up w w' Q F F) : CopR l z i c r w w' Q F v 0 := by
  obtain ⟨e1, e2⟩ := cop_refused he
  refine ⟨fun h => absurd h he, fun _ => rfl, F, ?_, hu⟩
  rw [e1, e2]
  exact h
set_option maxRecDepth 100000 in
set_option maxHeartbeats 8000000 in
theorem copies_im {Q : Nat} {F : Nat → Prop} {l : List Dr} {z : Int} (i c r : Int) (w : World) (h : DP w Q F l z) (hg : Good l z) :
    Calls Try.prog 18 #[ptr Q, .int .i64 i, .int .i64 c, .int .i64 r] w fun e w' => ∃ a n cc, e = .returned (.tuple #[.slice a n cc, .int .i64 (copE l z i c r)]) ∧ Hid (CopR l z i c r w w' Q F (.slice a n cc) n) := by
  have HG := Lib.hid (get_is i w h hg.rise (by have := hg.len; omega))
  have HP := Lib.hid h; have HGD := Lib.hid hg
  obtain ⟨x, hx⟩ : ∃ x, (find l i).getD default = x := ⟨_, rfl⟩
  rw [hx] at HG
  have HX : Hid (∀ W, Below w.heap.size w W → ∃ X T, W.alloc (.cells #[.int .i64 x.id, .int .i64 x.owner, .int .i64 x.div, .int .i64 x.place, .int .i64 x.blue, .int .i64 x.me, .int .i64 x.te, .int .i64 x.runs, .int .i64 x.busy] 36) = X ∧ W.heap.size = T ∧ Hid (Below w.heap.size w X ∧ w.heap.size ≤ T ∧ Has X T x ∧ Q < T ∧ (∀ j, F j → j < T))) := Lib.hid (fun W hW => by
    have hb := hW.alloc hW.size (.cells #[.int .i64 x.id, .int .i64 x.owner, .int .i64 x.div, .int .i64 x.place, .int .i64 x.blue, .int .i64 x.me, .int .i64 x.te, .int .i64 x.runs, .int .i64 x.busy] 36)
    have hs := hW.size
    exact ⟨_, _, rfl, rfl, Lib.hid ⟨hb, hs, heap_alloc_new W _, Nat.lt_of_lt_of_le (HP.out.lt Q HP.out.self) hs, fun j hj => Nat.lt_of_lt_of_le (HP.out.lt j hj) hs⟩⟩)
  have HN : Hid (∀ W, Below w.heap.size w W → copE l z i c r ≠ 0 → CopR l z i c r w W Q F (.slice none 0 0) 0) := Lib.hid fun W hW he => copR_no he (HP.out.under hW) (Up.of_below hW)
  obtain ⟨q, hq⟩ : ∃ q, copE l z i c r = q := ⟨_, rfl⟩
  cases hf : find l i with
  | none =>
    rw [hf] at HG
    obtain rfl : (3 : Int) = q := (cop_none hf).symm.trans hq
    have HQ := Lib.hid hq
    rw [hq]
    clear h hg hx hf hq
    go_enter Try.func18, Try.ntmps18
    go_wp2_with fail
    refine HG.out.mono ?_
    rintro e w1 ⟨rfl, hb1⟩
    obtain ⟨X, T, hX, hT, HA⟩ := HX.out w1 hb1
    have HE := Lib.hid (HN.out X HA.out.1 (by rw [HQ.out]; decide))
    clear hb1
    go_wp2_with fail
    go_ret2
    exact ⟨none, 0, 0, rfl, HE⟩
  | some d =>
    have hxd : d = x := by rw [hf] at hx; exact hx
    subst hxd
    rw [hf] at HG
    have hok := (hg.ok d (find_mem hf).1).1
    have e4 : (if (some d).isSome then (0 : Int) else 3) = 0 := rfl
    rw [e4] at HG
    rw [hq]
    have hqs := (cop_some (z := z) (c := c) (r := r) hf).symm.trans hq
    obtain ⟨bc, hbc⟩ : ∃ b, decide (1 ≤ c ∧ c ≤ 10) = b := ⟨_, rfl⟩
    obtain ⟨br, hbr⟩ : ∃ b, decide (1 ≤ r ∧ r ≤ 1000) = b := ⟨_, rfl⟩
    have HI1 := in_as hbc; have HI2 := in_as hbr
    have enter : ∀ K : Prop, K → K := fun _ h => h
    cases bc with
    | false =>
      obtain rfl : (1 : Int) = q := by rw [← hqs, if_neg fun e => of_decide_eq_false hbc e.1]
      have HQ := Lib.hid hq
      clear h hg hx hf hq hqs hbc hbr hok e4 enter
      go_enter Try.func18, Try.ntmps18
      go_wp2_with fail
      refine HG.out.mono ?_
      rintro e w1 ⟨rfl, hb1⟩
      obtain ⟨X, T, hX, hT, HA⟩ := HX.out w1 hb1
      have HE := Lib.hid (HN.out X HA.out.1 (by rw [HQ.out]; decide))
      clear hb1
      go_wp2_with fail
      refine (HI1.out _).mono ?_
      rintro e w' ⟨rfl, rfl⟩
      clear hX hT
      go_wp2_with fail
      go_ret2
      exact ⟨none, 0, 0, rfl, HE⟩
    | true =>
      have hc := of_decide_eq_true hbc
      cases br with
      | false =>
        obtain rfl : (1 : Int) = q := by rw [← hqs, if_neg fun e => of_decide_eq_false hbr e.2]
        have HQ := Lib.hid hq
        clear h hg hx hf hq hqs hbc hbr hok e4 hc enter
        go_enter Try.func18, Try.ntmps18
        go_wp2_with fail
        refine HG.out.mono ?_
        rintro e w1 ⟨rfl, hb1⟩
        obtain ⟨X, T, hX, hT, HA⟩ := HX.out w1 hb1
        have HE := Lib.hid (HN.out X HA.out.1 (by rw [HQ.out]; decide))
        clear hb1
        go_wp2_with fail
        refine (HI1.out _).mono ?_
        rintro e w' ⟨rfl, rfl⟩
        clear hX hT
        go_wp2_with fail
        refine (HI2.out _).mono ?_
        rintro e w' ⟨rfl, rfl⟩
        go_wp2_with fail
        go_ret2
        exact ⟨none, 0, 0, rfl, HE⟩
      | true =>
        have hr := of_decide_eq_true hbr
        rw [if_pos ⟨hc, hr⟩] at hqs
        by_cases hru : d.runs = -1
        · rw [if_pos hru] at hqs
          have hn1 : (d.runs != -1) = false := by simp [hru]
          have hn2 : (d.runs == -1) = true := by simp [hru]
          have HR : Hid (∀ W, Below w.heap.size w W → Calls Try.prog 26 #[ptr Q, .int .i64 c] W fun e w' => e = .returned (.bool (decide ((l.length : Int) + c ≤ 64 ∧ z + c < mt))) ∧ Hid (Below W.heap.size W w')) := Lib.hid fun W hW =>
            (room_is c W (HP.out.under hW) HGD.out (by omega)).mono fun _ _ ⟨e, hb⟩ => ⟨e, Lib.hid hb⟩
          obtain ⟨b, hb⟩ : ∃ b, decide ((l.length : Int) + c ≤ 64 ∧ z + c < mt) = b := ⟨_, rfl⟩
          rw [hb] at HR
          cases b with
          | false =>
            obtain rfl : (4 : Int) = q := by rw [← hqs, if_neg (of_decide_eq_false hb)]
            have HQ := Lib.hid hq
            clear h hg hx hf hq hqs hbc hbr hok e4 hc hr hru hb enter
            go_enter Try.func18, Try.ntmps18
            go_wp2_with fail
            refine HG.out.mono ?_
            rintro e w1 ⟨rfl, hb1⟩
            obtain ⟨X, T, hX, hT, HA⟩ := HX.out w1 hb1
            have HRX := Lib.hid (HR.out X HA.out.1)
            obtain ⟨k0, k1, k2, k3, k4, k5, k6, k7, k8⟩ := el_at HA.out.2.2.1
            clear hb1
            go_wp2_with fail
            refine (HI1.out _).mono ?_
            rintro e w' ⟨rfl, rfl⟩
            clear hX hT
            go_wp2_with fail
            refine (HI2.out _).mono ?_
            rintro e w' ⟨rfl, rfl⟩
            go_wp2_with fail
            refine HRX.out.mono ?_
            rintro e w2 ⟨rfl, hb2⟩
            have HE := Lib.hid (HN.out w2 (below_then HA.out.1 hb2.out) (by rw [HQ.out]; decide))
            clear k0 k1 k2 k3 k4 k5 k6 k7 k8
            go_wp2_with fail
            go_ret2
            exact ⟨none, 0, 0, rfl, HE⟩
          | true =>
            have hroom := of_decide_eq_true hb
            obtain rfl : (0 : Int) = q := by rw [← hqs, if_pos hroom]
            obtain ⟨n, hn⟩ : ∃ n : Nat, c = n := ⟨c.toNat, by omega⟩
            subst hn
            have hroom1 := hroom.1; have hroom2 := hroom.2
            have HQ := Lib.hid hq
            have HL := Lib.hid (copL_zero (z := z) (c := (n : Int)) (r := r) hf hq)
            have HOK := Lib.hid (ok_copy hok hr.1 hr.2)
            have HLL : Hid (l.length + n ≤ 64 ∧ z + n < mt) := Lib.hid ⟨by omega, hroom2⟩
            have hn10 : n ≤ 10 := by omega
            have hn11 : (n : Int) ≤ 1048576 := by omega
            have HY : Hid (∀ X T W, Below w.heap.size w X → w.heap.size ≤ T → Has X T d → Q < T → (∀ j, F j → j < T) → Below X.heap.size X W → ∃ Y, (W.setCell ⟨T, 7, none⟩ (.int .i64 r)).setCell ⟨T, 8, none⟩ (.int .i64 0) = Y ∧ Hid (Cop w Y Q T F l z (copy d r) 0 (.slice none 0 0))) := Lib.hid (fun X T W hX hT hH hQ hF hW => by
              have hWw := below_then hX hW
              have h1 : Has W T d := (hW.block T (Array.getElem?_eq_some_iff.1 hH).1).trans hH
              have h2 : Has ((W.setCell ⟨T, 7, none⟩ (.int .i64 r)).setCell ⟨T, 8, none⟩ (.int .i64 0)) T (copy d r) := set_busy (set_runs h1 r) 0
              have h3 : ∀ k, k ≠ T → ((W.setCell ⟨T, 7, none⟩ (.int .i64 r)).setCell ⟨T, 8, none⟩ (.int .i64 0)).heap[k]? = W.heap[k]? := fun k hk => (Below.heap_setCell _ ⟨T, 8, none⟩ _ k hk).trans (Below.heap_setCell _ ⟨T, 7, none⟩ _ k hk)
              have hg := only_setCell (only_setCell (only_refl W (some T)) 7 (.int .i64 r)) 8 (.int .i64 0)
              refine ⟨_, rfl, Lib.hid ⟨F, ?_, ⟨⟨hg.os.trans hWw.os, hg.tape.trans hWw.tape, hg.output.trans hWw.output, Nat.le_trans hWw.size hg.size, fun k hk _ => (h3 k (by omega)).trans (hWw.block k hk)⟩, fun j hj => .inl hj⟩, ks_nil _ _, h2, hT, fun hf => ?_, fun j hj => by cases hj⟩⟩
              · have e : z + ((0 : Nat) : Int) = z := by omega
                rw [e]
                show DP _ Q F (l ++ []) z
                rw [List.append_nil]
                exact (HP.out.under hWw).keep hg.size fun k hk => h3 k (by have := hF k hk; omega)
              · have := hF T hf
                omega)
            have HF : Hid (∀ W (T : Nat), Has W T d → (W.cell? ⟨T, 7, none⟩ = some (.int .i64 d.runs) ∧ W.frozen? ⟨T, 7, none⟩ = false) ∧ W.cell? ⟨T, 8, none⟩ = some (.int .i64 d.busy) ∧ W.frozen? ⟨T, 8, none⟩ = false) := Lib.hid fun W T h => ⟨⟨cell_block (j := 7) h rfl, free_block 7 h⟩, cell_block (j := 8) h rfl, free_block 8 h⟩
            clear h hg hx hf hq hqs hbc hbr hok e4 hc hr hru hb hroom hroom1 hroom2 enter
            go_enter Try.func18, Try.ntmps18
            go_wp2_with fail
            refine HG.out.mono ?_
            rintro e w1 ⟨rfl, hb1⟩
            obtain ⟨X, T, hX, hT, HA⟩ := HX.out w1 hb1
            have HRX := Lib.hid (HR.out X HA.out.1)
            obtain ⟨k0, k1, k2, k3, k4, k5, k6, k7, k8⟩ := el_at HA.out.2.2.1
            clear hb1
            go_wp2_with fail
            refine (HI1.out _).mono ?_
            rintro e w' ⟨rfl, rfl⟩
            clear hX hT
            go_wp2_with fail
            refine (HI2.out _).mono ?_
            rintro e w' ⟨rfl, rfl⟩
            go_wp2_with fail
            refine HRX.out.mono ?_
            rintro e w2 ⟨rfl, hb2⟩
            obtain ⟨Y, hY, HC⟩ := HY.out X T w2 HA.out.1 HA.out.2.1 HA.out.2.2.1 HA.out.2.2.2.1 HA.out.2.2.2.2 hb2.out
            obtain ⟨⟨g7, f7⟩, g8, f8⟩ := HF.out w2 T ((hb2.out.block T (Array.getElem?_eq_some_iff.1 HA.out.2.2.1).1).trans HA.out.2.2.1)
            clear k0 k1 k2 k3 k4 k5 k6 k7 k8
            go_wp2_with fail
            clear hY g7 f7 g8 f8
            go_loopw [12, 47] (fun v t wr => ∃ (j : Nat) (a : Option Addr) (cc : Nat), v = .slice a j cc ∧ t = .int .i64 (j : Int) ∧ j ≤ n ∧ Hid (Cop w wr Q T F l z (copy d r) j (.slice a j cc))) (fun _ t _ => n - (RowKit.intOf t).toNat)
            case atStart => exact ⟨0, none, 0, rfl, rfl, by omega, HC⟩
            case round =>
              clear HC
              obtain ⟨j, a, cc, rfl, rfl, hj, HC⟩ := hrel
              have hj0 : (0 : Int) ≤ (j : Int) := by omega
              by_cases hlt : j < n
              · have hlt2 : (j : Int) < (n : Int) := by omega
                obtain ⟨W0, rfl⟩ : ∃ W0, W0 = wr := ⟨_, rfl⟩
                have HS := Lib.hid (cop_step (HC.out.under (Below.refl _ W0).drew) HGD.out HOK.out (by have := HLL.out; omega) (by have := HLL.out; omega))
                obtain ⟨y, hy⟩ : ∃ y, z + (j : Int) + 1 = y := ⟨_, rfl⟩
                rw [hy] at HS
                obtain ⟨k0, k1, k2, k3, k4, k5, k6, k7, k8⟩ := el_at (show Has W0 T (copy d r) from HC.out.choose_spec.2.2.2.1)
                go_wp2_with fail
                go_region_law (first | (refine step_run (by rfl) _ _ _ _ (by rfl) _ _ (by rfl) (by rfl) HR3.out ?_) | (go_simp; refine HS.out.mono ?_; rintro e w3 ⟨rfl, a', c', W3, HR3, HC3⟩))
                all_goals
                  go_wp2_with fail
                  go_roundw
                  case rel => exact ⟨j + 1, a', c', rfl, by go_num, by omega, HC3⟩
                  case measure => simp [RowKit.intOf]; omega
              · obtain rfl : j = n := by omega
                have HE : Hid (CopR l z i (j : Int) r w wr Q F (.slice a j cc) j) := Lib.hid (by
                  obtain ⟨G, h1, h2, h3, _⟩ := HC.out
                  refine ⟨fun _ => ⟨by omega, h3⟩, fun e => absurd HQ.out e, G, ?_, h2⟩
                  rw [HL.out.1, HL.out.2]
                  exact h1)
                go_wp2_with fail
                go_ret2
                exact ⟨a, j, cc, rfl, HE⟩
        · rw [if_neg hru] at hqs
          subst hqs
          have HQ := Lib.hid hq
          have hn1 : (d.runs != -1) = true := by simpa using hru
          have hn2 : (d.runs == -1) = false := by simpa using hru
          clear h hg hx hf hq hbc hbr hok e4 hc hr hru enter
          go_enter Try.func18, Try.ntmps18
          go_wp2_with fail
          refine HG.out.mono ?_
          rintro e w1 ⟨rfl, hb1⟩
          obtain ⟨X, T, hX, hT, HA⟩ := HX.out w1 hb1
          obtain ⟨k0, k1, k2, k3, k4, k5, k6, k7, k8⟩ := el_at HA.out.2.2.1
          have HE := Lib.hid (HN.out X HA.out.1 (by rw [HQ.out]; decide))
          clear hb1
          go_wp2_with fail
          refine (HI1.out _).mono ?_
          rintro e w' ⟨rfl, rfl⟩
          clear hX hT
          go_wp2_with fail
          refine (HI2.out _).mono ?_
          rintro e w' ⟨rfl, rfl⟩
          go_wp2_with fail
          go_ret2
          exact ⟨none, 0, 0, rfl, HE⟩
end Go.Proofs.Ytfebaiefoonncaa.Draft
