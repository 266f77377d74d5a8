/- The document's nums: the bytes of numbers, one behind the other. The document's Put. -/
import Derived.Test.YteaclacbdelinaaZCatByt
import Derived.Test.YteaclacbdelinaaZCatA
import Derived.Test.YteaclacbdelinaaZPrWord
import Derived.Test.YteaclacbdelinaaZCatE
import Derived.StillTailTactics
namespace Go.Proofs.Yteaclacbdelinaa.Cat
open Go.RowKit Go.Lib IRows
open Pen (uintB)

theorem irow_lay {w : World} {g : Nat} {cs : Array Value} {T : TypeId} (l : List Int) (h : w.heap[g]? = some (.cells cs T (0, 0))) (hc : cs.toList = l.map (Value.int .i64)) : IRow w (some ⟨g, 0, none⟩) l := fun i x hi => by
  refine ⟨g, 0, rfl, (Array.getElem?_eq_some_iff.1 h).1, ?_⟩
  rw [Nat.zero_add]
  refine cell_block (j := i) h ?_
  rw [← Array.getElem?_toList, hc, List.getElem?_map, hi]
  rfl
theorem numsB_take {l : List Int} {i : Nat} {x : Int} (h : l[i]? = some x) : numsB (l.take (i + 1)) = numsB (l.take i) ++ uintB x := by
  rw [List.take_add_one, h]
  show numsB (l.take i ++ [x]) = _
  rw [numsB_append, numsB_one]
set_option maxRecDepth 100000 in
set_option maxHeartbeats 4000000 in
theorem dnums (a : Option Addr) (n c : Nat) (l : List Int) (w : World) (hl : l.length = n) (hs : IRow w a l) (hn : n ≤ 1000) (hx : ∀ x ∈ l, x ≤ 9223372036854775807) :
    Calls Try.prog 43 #[.slice a n c] w fun e w' => e = .returned (.string (numsB l)) ∧ Below w.heap.size w w' := by
  have HT := irow_at hs
  have HL := Lib.hid hl
  have HX := Lib.hid hx
  have hn1 : (n : Int) ≤ 1000 := by omega
  have HN := Lib.hid hn
  clear hl hs hx hn
  go_enter Try.func43, Try.ntmps43
  go_wp2_with fail
  go_loopw [3, 4] (fun s t wr => ∃ (i : Nat) (S : ByteArray), s = .string S ∧ t = .int .i64 (i : Int) ∧ i ≤ n ∧ Hid (S = numsB (l.take i)) ∧ Hid (Below w.heap.size w wr)) (fun _ t _ => n - (RowKit.intOf t).toNat)
  case atStart => exact ⟨0, ⟨#[]⟩, rfl, rfl, by omega, Lib.hid (by rw [List.take_zero]; rfl), Lib.hid (Below.refl _ _)⟩
  case round =>
    obtain ⟨i, S, rfl, rfl, hi, HS, HB⟩ := hrel
    have hi0 : (0 : Int) ≤ (i : Int) := by omega
    by_cases hlt : i < n
    · have hlt2 : (i : Int) < (n : Int) := by omega
      obtain ⟨g, off, x, rfl, ht, k0⟩ := HT.out wr i HB.out (by rw [HL.out]; exact hlt)
      have wi : IntKind.i64.wrap ((i : Int) + 1) = (i : Int) + 1 := IntWalk.i64_in _ (by omega)
      obtain ⟨U, hU⟩ : ∃ U, uintB x = U := ⟨_, rfl⟩
      have HU : Hid (∀ W, Calls Try.prog 59 #[.int .i64 x] W fun e w' => e = .returned (.string U) ∧ Hid (Below W.heap.size W w')) := Lib.hid (fun W => by
        rw [← hU]
        exact (Pen.ruint_bytes x W (HX.out x (List.mem_of_getElem? ht.out))).mono fun _ _ ⟨e, h⟩ => ⟨e, Lib.hid h⟩)
      have hsz : ¬ 9223372036854775807 < S.size + U.size := by
        have h1 := numsB_size (l.take i)
        have h2 := Pen.uintB_size x
        have h3 := HN.out
        rw [← HS.out, List.length_take] at h1
        rw [hU] at h2
        omega
      have HS2 : Hid (S ++ U = numsB (l.take (i + 1))) := Lib.hid (by rw [numsB_take ht.out, ← HS.out, hU])
      clear hU
      go_wp2_with fail
      refine (HU.out _).mono ?_
      rintro e w1 ⟨rfl, H1⟩
      go_wp2_with fail
      go_roundw
      case rel => exact ⟨i + 1, S ++ U, rfl, by go_num, by omega, HS2, Lib.hid (below_then HB.out H1.out)⟩
      case measure => simp [RowKit.intOf]; omega
    · obtain rfl : i = n := by omega
      have HE : Hid (S = numsB l) := Lib.hid (by
        have := HS.out
        rw [List.take_of_length_le (by rw [HL.out]; exact Nat.le_refl _)] at this
        exact this)
      go_wp2_with fail
      go_ret
      exact ⟨ret_str (by rw [HE.out]), HB.out⟩
theorem numsB_le {l : List Int} {n : Nat} (h : l.length ≤ n) : (numsB l).size ≤ 10 * n := by
  have := numsB_size l
  omega
/-! Numbers that a composite literal lays. -/
theorem nums2 (x y : Int) (h : x ≤ 9223372036854775807 ∧ y ≤ 9223372036854775807) : ∃ S, Hid (S = numsB [x, y]) ∧ Hid (S.size ≤ 20) ∧ Hid (∀ B W, Below B.heap.size B W → Calls Try.prog 43 #[.slice (some ⟨W.heap.size, 0, none⟩) 2 2] (W.alloc (.cells #[.int .i64 x, .int .i64 y] 3)) fun e w' => e = .returned (.string S) ∧ Hid (Below B.heap.size B w')) := by
  refine ⟨_, Lib.hid rfl, Lib.hid (numsB_le (n := 2) (by simp)), Lib.hid (fun B W hB => ?_)⟩
  have hA : Below W.heap.size W (W.alloc (.cells #[.int .i64 x, .int .i64 y] 3)) := (Below.refl _ W).alloc (Nat.le_refl _) _
  refine (dnums _ 2 2 [x, y] _ rfl (irow_lay [x, y] (heap_alloc_new W _) rfl) (by omega) (fun u hu => ?_)).mono fun _ _ ⟨e, h⟩ => ⟨e, Lib.hid (below_then hB (below_then hA h))⟩
  simp at hu
  rcases hu with rfl | rfl
  · exact h.1
  · exact h.2
theorem nums3 (x y z : Int) (h : x ≤ 9223372036854775807 ∧ y ≤ 9223372036854775807 ∧ z ≤ 9223372036854775807) : ∃ S, Hid (S = numsB [x, y, z]) ∧ Hid (S.size ≤ 30) ∧ Hid (∀ B W, Below B.heap.size B W → Calls Try.prog 43 #[.slice (some ⟨W.heap.size, 0, none⟩) 3 3] (W.alloc (.cells #[.int .i64 x, .int .i64 y, .int .i64 z] 3)) fun e w' => e = .returned (.string S) ∧ Hid (Below B.heap.size B w')) := by
  refine ⟨_, Lib.hid rfl, Lib.hid (numsB_le (n := 3) (by simp)), Lib.hid (fun B W hB => ?_)⟩
  have hA : Below W.heap.size W (W.alloc (.cells #[.int .i64 x, .int .i64 y, .int .i64 z] 3)) := (Below.refl _ W).alloc (Nat.le_refl _) _
  refine (dnums _ 3 3 [x, y, z] _ rfl (irow_lay [x, y, z] (heap_alloc_new W _) rfl) (by omega) (fun u hu => ?_)).mono fun _ _ ⟨e, h⟩ => ⟨e, Lib.hid (below_then hB (below_then hA h))⟩
  simp at hu
  rcases hu with rfl | rfl | rfl
  · exact h.1
  · exact h.2.1
  · exact h.2.2
theorem nums4 (x y z u : Int) (h : x ≤ 9223372036854775807 ∧ y ≤ 9223372036854775807 ∧ z ≤ 9223372036854775807 ∧ u ≤ 9223372036854775807) : ∃ S, Hid (S = numsB [x, y, z, u]) ∧ Hid (S.size ≤ 40) ∧ Hid (∀ B W, Below B.heap.size B W → Calls Try.prog 43 #[.slice (some ⟨W.heap.size, 0, none⟩) 4 4] (W.alloc (.cells #[.int .i64 x, .int .i64 y, .int .i64 z, .int .i64 u] 3)) fun e w' => e = .returned (.string S) ∧ Hid (Below B.heap.size B w')) := by
  refine ⟨_, Lib.hid rfl, Lib.hid (numsB_le (n := 4) (by simp)), Lib.hid (fun B W hB => ?_)⟩
  have hA : Below W.heap.size W (W.alloc (.cells #[.int .i64 x, .int .i64 y, .int .i64 z, .int .i64 u] 3)) := (Below.refl _ W).alloc (Nat.le_refl _) _
  refine (dnums _ 4 4 [x, y, z, u] _ rfl (irow_lay [x, y, z, u] (heap_alloc_new W _) rfl) (by omega) (fun v hv => ?_)).mono fun _ _ ⟨e, h⟩ => ⟨e, Lib.hid (below_then hB (below_then hA h))⟩
  simp at hv
  rcases hv with rfl | rfl | rfl | rfl
  · exact h.1
  · exact h.2.1
  · exact h.2.2.1
  · exact h.2.2.2
end Go.Proofs.Yteaclacbdelinaa.Cat
namespace Go.Proofs.Yteaclacbdelinaa.Cat
open Go.RowKit Go.Lib
open Goods (St Sts OwnS)
open Recipe (BlIn blV)

theorem intsS_take {s : List St} {k : Nat} {t : St} (h : s[k]? = some t) : intsS (s.take (k + 1)) = intsS (s.take k) ++ [t.kind, t.qty] := by
  rw [List.take_add_one, h]
  exact intsS_append _ [t]
theorem intsBs_take {s : List PB} {k : Nat} {t : PB} (h : s[k]? = some t) : intsBs (s.take (k + 1)) = intsBs (s.take k) ++ intsB t := by
  rw [List.take_add_one, h]
  refine (intsBs_append _ [t]).trans ?_
  simp [intsBs]
theorem intsYs_take {s : List Ba} {k : Nat} {t : Ba} (h : s[k]? = some t) : intsYs (s.take (k + 1)) = intsYs (s.take k) ++ intsY t := by
  rw [List.take_add_one, h]
  refine (intsYs_append _ [t]).trans ?_
  simp [intsYs]
theorem put_no {C : Cat} (h : ¬ chkC C = 0) : putV C = ⟨#[]⟩ ∧ putE C = chkC C := ⟨by unfold putV; rw [if_neg h], rfl⟩
theorem put_yes {C : Cat} (h : chkC C = 0) : putV C = numsB (ints C) ∧ putE C = 0 := ⟨by unfold putV; rw [if_pos h], h⟩
/-- A string so far, and what comes behind it. -/
theorem more_size {S U : ByteArray} {L : List Int} {n k : Nat} (h : S = numsB L) (hL : L.length ≤ n) (hU : U.size ≤ k) (hn : n ≤ 10000) (hk : k ≤ 1000) : ¬ 9223372036854775807 < S.size + U.size := by
  have := numsB_le hL
  rw [← h] at this
  omega
theorem asm_b {S S1 R S3 : ByteArray} {p q a s c : List Int} (h1 : S = numsB (p ++ q)) (h2 : S1 = numsB a) (h3 : R = S ++ S1 ++ numsB s) (h4 : S3 = numsB c) : R ++ S3 = numsB (p ++ (q ++ (a ++ (s ++ c)))) := by
  subst h1 h2 h3 h4
  simp only [numsB_append, append_assoc]
theorem asm_k {S S1 R S2 : ByteArray} {s c : List Int} (h3 : R = S ++ S1 ++ numsB s) (h4 : S2 = numsB c) : R ++ S2 = S ++ S1 ++ numsB (s ++ c) := by
  subst h3 h4
  simp only [numsB_append, append_assoc]
theorem asm_one {S U : ByteArray} {l k : List Int} (h1 : S = numsB l) (h2 : U = numsB k) : S ++ U = numsB (l ++ k) := by
  subst h1 h2
  rw [numsB_append]
set_option maxRecDepth 100000 in
set_option maxHeartbeats 16000000 in
theorem dput (C : CM) (w : World) (h : CatAt w C) (hl : Lim C) :
    Calls Try.prog 20 #[C.v] w fun e w' => e = .returned (.tuple #[.string (putV C.p), .int .i64 (putE C.p)]) ∧ Below w.heap.size w w' := by
  obtain ⟨V, X, hV, hX, HXB, HP⟩ := box_cat w C
  obtain ⟨k0, k1, k2, k3, k4, k5, k6, k7⟩ := HP.out X (Below.refl _ _)
  obtain ⟨er, her⟩ : ∃ er, chkC C.p = er := ⟨_, rfl⟩
  have HC : Hid (Calls Try.prog 15 #[C.v] X fun e w' => e = .returned (.int .i64 er) ∧ Hid (Below X.heap.size X w')) := Lib.hid (by
    rw [← her]
    exact (dcheck C X (h.under HXB.out) hl).mono fun _ _ ⟨e, h⟩ => ⟨e, Lib.hid h⟩)
  have HNO : Hid (∀ W, Below X.heap.size X W → Below w.heap.size w W) := Lib.hid fun W hW => below_then HXB.out hW
  by_cases he : er = 0
  case neg =>
    have n1 : (er == 0) = false := by simpa using he
    have n2 : (er != 0) = true := by simpa using he
    obtain ⟨e1, e2⟩ := put_no (C := C.p) (by rw [her]; exact he)
    rw [her] at e2
    rw [e1, e2]
    clear e1 e2 h hl her
    go_enter Try.func20, Try.ntmps20
    go_wp2_with fail
    clear hX hV
    refine HC.out.mono ?_
    rintro e w1 ⟨rfl, G1⟩
    go_wp2_with fail
    go_ret2
    exact ⟨rfl, HNO.out _ G1.out⟩
  subst he
  obtain ⟨e1, e2⟩ := put_yes her
  have hok := chk_zero her
  have HPOS := Lib.hid (ok_pos hok)
  have HLB : Hid (∀ i, (intsBs (C.p.bs.take i)).length ≤ 460) := Lib.hid fun i => by
    have h1 := intsBs_length (C.p.bs.take i) fun b hb => ((ok_pos hok).2.1 b (List.mem_of_mem_take hb)).2.2.2.2.2.2.1
    have h2 : C.p.bs.length ≤ 16 := hok.1.2.2.2.1
    have h3 : (C.p.bs.take i).length ≤ 16 := by rw [List.length_take]; omega
    omega
  have HLY : Hid (∀ i, (intsYs (C.p.ys.take i)).length ≤ 32) := Lib.hid fun i => by
    have h1 := intsYs_length (C.p.ys.take i)
    have h2 : C.p.ys.length ≤ 8 := hok.1.2.2.2.2.1
    have h3 : (C.p.ys.take i).length ≤ 8 := by rw [List.length_take]; omega
    omega
  have hlen : C.p.bs.length = C.bn := by unfold CM.p; rw [List.length_map]; exact h.1.1
  have hlen2 : C.p.ys.length = C.yn := h.2.1
  have HL1 := Lib.hid hlen
  have HL2 := Lib.hid hlen2
  have HB := blue_at (h.under HXB.out)
  have HY := bay_at (h.under HXB.out)
  have HPB : Hid (∀ (i : Nat) (b : Recipe.Bl), C.bs[i]? = some b → C.p.bs[i]? = some (pOf b)) := Lib.hid fun i b hb => by unfold CM.p; simp [hb]
  have hb1 : C.bn ≤ 20 := hl.2.1
  have hy1 : C.yn ≤ 12 := hl.2.2
  have hb2 : (C.bn : Int) ≤ 20 := by omega
  have hy2 : (C.yn : Int) ≤ 12 := by omega
  have HEND : Hid (numsB (ints C.p) = putV C.p) := Lib.hid e1.symm
  rw [e2]
  obtain ⟨P0, hP0⟩ : ∃ P0, putV C.p = P0 := ⟨_, rfl⟩
  rw [hP0] at HEND
  rw [hP0]
  obtain ⟨S0, Q0, Z0, N0⟩ := nums2 C.ty (C.bn : Int) ⟨by have := HPOS.out.1; exact this.2, by omega⟩
  obtain ⟨S9, Q9, Z9, N9⟩ := nums2 C.pl (C.yn : Int) ⟨by have := HPOS.out.2.2.1; exact this.2, by omega⟩
  obtain ⟨S8, Q8, Z8, N8⟩ := nums4 C.ch C.f.broker C.f.least C.f.sales (by have := HPOS.out.2.2.2.2; exact ⟨this.1.2, this.2.1.2, this.2.2.1.2, this.2.2.2.2⟩)
  clear e1 e2 h hl her hok hlen hlen2 hP0
  go_enter Try.func20, Try.ntmps20
  go_wp2_with fail
  clear hX hV
  refine HC.out.mono ?_
  rintro e w1 ⟨rfl, G1⟩
  obtain ⟨y0, y1, y2, y3, y4, y5, y6, y7⟩ := HP.out w1 G1.out
  clear HC k0 k1 k2 k3 k4 k5 k6 k7
  go_wp2_with fail
  refine (N0.out X w1 G1.out).mono ?_
  rintro e w2 ⟨rfl, G2⟩
  clear y0 y1 y2 y3 y4 y5 y6 y7 N0 G1
  go_wp2_with fail
  go_loopw [5, 6] (fun s t wr => ∃ (i : Nat) (S : ByteArray), s = .string S ∧ t = .int .i64 (i : Int) ∧ i ≤ C.bn ∧ Hid (S = numsB ([C.ty, (C.bn : Int)] ++ intsBs (C.p.bs.take i))) ∧ Hid (Below X.heap.size X wr)) (fun _ t _ => C.bn - (RowKit.intOf t).toNat)
  case atStart => exact ⟨0, S0, rfl, rfl, by omega, Lib.hid (by rw [List.take_zero]; exact Q0.out), G2⟩
  case round =>
    clear G2
    obtain ⟨i, S, rfl, rfl, hi, HS, HW⟩ := hrel
    obtain ⟨W0, rfl⟩ : ∃ W0, W0 = wr := ⟨_, rfl⟩
    obtain ⟨k0, k1, k2, k3, k4, k5, k6, k7⟩ := HP.out W0 HW.out
    have hi0 : (0 : Int) ≤ (i : Int) := by omega
    by_cases hlt : i < C.bn
    · have hlt2 : (i : Int) < (C.bn : Int) := by omega
      have wi : IntKind.i64.wrap ((i : Int) + 1) = (i : Int) + 1 := IntWalk.i64_in _ (by omega)
      obtain ⟨g, off, b, hba, ht, q0, q1, q2, q3, q4, q5, q6⟩ := HB.out W0 i HW.out hlt
      rw [hba] at k1
      clear hba
      obtain ⟨U, Z, hU, hZ, HZB, HU⟩ := Recipe.box_blue W0 b
      obtain ⟨u0, u1, u2, u3, u4, u5, u6⟩ := HU.out Z (Below.refl _ _)
      have HZX : Hid (Below X.heap.size X Z) := Lib.hid (below_then HW.out HZB.out)
      have hpb := HPB.out i b ht.out.1
      have hps := HPOS.out.2.1 (pOf b) (List.mem_of_getElem? hpb)
      obtain ⟨p1, p2, p3, p4, p5, p6, p7, p8⟩ := hps
      have hsl := ht.out.2.1
      have hs8 : b.sm ≤ 8 := by rw [← hsl]; exact p7
      have hs9 : (b.sm : Int) ≤ 8 := by omega
      have HQS : Hid (∀ t ∈ b.s, t.kind ≤ 9223372036854775807 ∧ t.qty ≤ 9223372036854775807) := Lib.hid fun t ht => ⟨(p8 t ht).1.2, (p8 t ht).2.2⟩
      obtain ⟨S1, Q1, Z1, N1⟩ := nums4 b.ot b.per b.tm (b.sm : Int) ⟨p1.2, p2.2, p3.2, by omega⟩
      obtain ⟨S3, Q3, Z3, N3⟩ := nums3 b.cp b.st b.mo ⟨p4.2, p5.2, p6.2⟩
      have HTT := Goods.sts_at (ht.out.2.2.under HZB.out)
      have HSL := Lib.hid hsl
      have HS8 := Lib.hid hs8
      have HTK := Lib.hid (intsBs_take hpb)
      have HIB : Hid (intsB (pOf b) = [b.ot, b.per, b.tm, (b.sm : Int)] ++ (intsS b.s ++ [b.cp, b.st, b.mo])) := Lib.hid (by rw [← hsl]; rfl)
      have HSZ : Hid (S.size ≤ 4620 ∧ S1.size ≤ 40) := Lib.hid ⟨by have h1 := numsB_le (l := [C.ty, (C.bn : Int)] ++ intsBs (C.p.bs.take i)) (n := 462) (by have := HLB.out i; simp; omega); rw [← HS.out] at h1; omega, Z1.out⟩
      have hz1 : ¬ 9223372036854775807 < S.size + S1.size := more_size (n := 1000) HS.out (by have := HLB.out i; simp; omega) Z1.out (by omega) (by omega)
      clear hpb p1 p2 p3 p4 p5 p6 p7 p8 hsl hs8 ht
      go_wp2_with fail
      clear hU hZ k0 k1 k2 k3 k4 k5 k6 k7 q0 q1 q2 q3 q4 q5 q6
      refine (N1.out Z Z (Below.refl _ _)).mono ?_
      rintro e w3 ⟨rfl, G3⟩
      clear u0 u1 u2 u3 u4 u5 u6
      go_wp2_with fail
      go_loopw [5, 8] (fun s t wr => ∃ (k : Nat) (R : ByteArray), s = .string R ∧ t = .int .i64 (k : Int) ∧ k ≤ b.sm ∧ Hid (R = S ++ S1 ++ numsB (intsS (b.s.take k))) ∧ Hid (Below Z.heap.size Z wr)) (fun _ t _ => b.sm - (RowKit.intOf t).toNat)
      case atStart => exact ⟨0, S ++ S1, rfl, rfl, by omega, Lib.hid (by rw [List.take_zero]; exact (append_nil _).symm), G3⟩
      case round =>
        clear G3
        obtain ⟨k, R, rfl, rfl, hk, HR, HWZ⟩ := hrel
        obtain ⟨W3, rfl⟩ : ∃ W3, W3 = wr := ⟨_, rfl⟩
        obtain ⟨u0, u1, u2, u3, u4, u5, u6⟩ := HU.out W3 HWZ.out
        have hk0 : (0 : Int) ≤ (k : Int) := by omega
        have HRZ : Hid (R.size ≤ 5000) := Lib.hid (by
          have h1 := numsB_size (intsS (b.s.take k))
          rw [intsS_length] at h1
          have h2 : (b.s.take k).length ≤ 8 := by rw [List.length_take]; have := HS8.out; omega
          have h3 := HSZ.out
          rw [HR.out, ByteArray.size_append, ByteArray.size_append]
          omega)
        by_cases hkt : k < b.sm
        · have hkt2 : (k : Int) < (b.sm : Int) := by omega
          have wk : IntKind.i64.wrap ((k : Int) + 1) = (k : Int) + 1 := IntWalk.i64_in _ (by omega)
          obtain ⟨g2, off2, t, hsa, hts, z0, z1⟩ := HTT.out W3 k HWZ.out (by rw [HSL.out]; exact hkt)
          rw [hsa] at u3
          clear hsa
          obtain ⟨S2, Q2, Z2, N2⟩ := nums2 t.kind t.qty (HQS.out t (List.mem_of_getElem? hts.out))
          have hz2 : ¬ 9223372036854775807 < R.size + S2.size := by have := HRZ.out; have := Z2.out; omega
          have HR2 : Hid (R ++ S2 = S ++ S1 ++ numsB (intsS (b.s.take (k + 1)))) := Lib.hid (by rw [intsS_take hts.out]; exact asm_k HR.out Q2.out)
          go_wp2_with fail
          go_region_with (go_at_call 43; refine (N2.out Z W3.drew HWZ.out.drew).mono ?_; rintro e w4 ⟨rfl, G4⟩)
          all_goals
            go_wp2_with fail
            go_roundw
            case rel => exact ⟨k + 1, R ++ S2, rfl, by go_num, by omega, HR2, G4⟩
            case measure => simp [RowKit.intOf]; omega
        · obtain rfl : k = b.sm := by omega
          have HR2 : Hid (R ++ S3 = numsB ([C.ty, (C.bn : Int)] ++ intsBs (C.p.bs.take (i + 1)))) := Lib.hid (by
            have h1 := HR.out
            rw [List.take_of_length_le (by rw [HSL.out]; exact Nat.le_refl _)] at h1
            rw [HTK.out, HIB.out]
            exact asm_b HS.out Q1.out h1 Q3.out)
          have hz2 : ¬ 9223372036854775807 < R.size + S3.size := by have := HRZ.out; have := Z3.out; omega
          go_wp2_with fail
          refine (N3.out Z W3 HWZ.out).mono ?_
          rintro e w4 ⟨rfl, G4⟩
          go_wp2_with fail
          go_roundw
          case rel => exact ⟨i + 1, R ++ S3, rfl, by go_num, by omega, HR2, Lib.hid (below_then HZX.out G4.out)⟩
          case measure => simp [RowKit.intOf]; omega
    · obtain rfl : i = C.bn := by omega
      have HS2 : Hid (S = numsB ([C.ty, (C.bn : Int)] ++ intsBs C.p.bs)) := Lib.hid (by
        have h1 := HS.out
        rw [List.take_of_length_le (by rw [HL1.out]; exact Nat.le_refl _)] at h1
        exact h1)
      have HSZ : Hid (S.size ≤ 4620) := Lib.hid (by have h1 := numsB_le (l := [C.ty, (C.bn : Int)] ++ intsBs (C.p.bs.take C.bn)) (n := 462) (by have := HLB.out C.bn; simp; omega); rw [← HS.out] at h1; omega)
      have hz1 : ¬ 9223372036854775807 < S.size + S9.size := by have := HSZ.out; have := Z9.out; omega
      go_wp2_with fail
      refine (N9.out X W0 HW.out).mono ?_
      rintro e w3 ⟨rfl, G3⟩
      clear k0 k1 k2 k3 k4 k5 k6 k7 HS N9
      go_wp2_with fail
      go_loopw [5, 9] (fun s t wr => ∃ (j : Nat) (R : ByteArray), s = .string R ∧ t = .int .i64 (j : Int) ∧ j ≤ C.yn ∧ Hid (R = S ++ S9 ++ numsB (intsYs (C.p.ys.take j))) ∧ Hid (Below X.heap.size X wr)) (fun _ t _ => C.yn - (RowKit.intOf t).toNat)
      case atStart => exact ⟨0, S ++ S9, rfl, rfl, by omega, Lib.hid (by rw [List.take_zero]; exact (append_nil _).symm), G3⟩
      case round =>
        clear G3 HW
        obtain ⟨j, R, rfl, rfl, hj, HR, HW⟩ := hrel
        obtain ⟨W3, rfl⟩ : ∃ W3, W3 = wr := ⟨_, rfl⟩
        obtain ⟨k0, k1, k2, k3, k4, k5, k6, k7⟩ := HP.out W3 HW.out
        have hj0 : (0 : Int) ≤ (j : Int) := by omega
        have HRZ : Hid (R.size ≤ 6000) := Lib.hid (by
          have h1 := numsB_size (intsYs (C.p.ys.take j))
          have h2 := HLY.out j
          have h3 := HSZ.out
          have h4 := Z9.out
          rw [HR.out, ByteArray.size_append, ByteArray.size_append]
          omega)
        by_cases hjt : j < C.yn
        · have hjt2 : (j : Int) < (C.yn : Int) := by omega
          have wj : IntKind.i64.wrap ((j : Int) + 1) = (j : Int) + 1 := IntWalk.i64_in _ (by omega)
          obtain ⟨g, off, y, hya, ht, q0, q1, q2, q3⟩ := HY.out W3 j HW.out hjt
          rw [hya] at k3
          clear hya
          obtain ⟨U, Z, hU, hZ, HZB, z0, z1, z2, z3⟩ := box_bay W3 y
          have HZX : Hid (Below X.heap.size X Z) := Lib.hid (below_then HW.out HZB.out)
          have hps := HPOS.out.2.2.2.1 y (List.mem_of_getElem? ht.out)
          obtain ⟨S2, Q2, Z2, N2⟩ := nums4 y.pl y.mf y.lb y.rt ⟨hps.1.2, hps.2.1.2, hps.2.2.1.2, hps.2.2.2.2⟩
          have hz2 : ¬ 9223372036854775807 < R.size + S2.size := by have := HRZ.out; have := Z2.out; omega
          have HR2 : Hid (R ++ S2 = S ++ S9 ++ numsB (intsYs (C.p.ys.take (j + 1)))) := Lib.hid (by have h := intsYs_take (s := C.p.ys) (k := j) (t := y) ht.out; rw [h]; exact asm_k HR.out Q2.out)
          clear hps
          go_wp2_with fail
          clear hU hZ k0 k1 k2 k3 k4 k5 k6 k7 q0 q1 q2 q3
          refine (N2.out X Z HZX.out).mono ?_
          rintro e w4 ⟨rfl, G4⟩
          go_wp2_with fail
          go_roundw
          case rel => exact ⟨j + 1, R ++ S2, rfl, by go_num, by omega, HR2, G4⟩
          case measure => simp [RowKit.intOf]; omega
        · obtain rfl : j = C.yn := by omega
          have HF : Hid (R ++ S8 = P0) := Lib.hid (by
            have h1 := HR.out
            rw [List.take_of_length_le (by rw [HL2.out]; exact Nat.le_refl _)] at h1
            have h2 := asm_b HS2.out Q9.out h1 Q8.out
            rw [h2, ← HEND.out]
            unfold ints intsF
            rw [HL1.out, HL2.out]
            rfl)
          have hz2 : ¬ 9223372036854775807 < R.size + S8.size := by have := HRZ.out; have := Z8.out; omega
          go_wp2_with fail
          refine (N8.out X W3 HW.out).mono ?_
          rintro e w4 ⟨rfl, G4⟩
          go_wp2_with fail
          go_ret2
          exact ⟨by rw [HF.out]; rfl, HNO.out _ G4.out⟩
end Go.Proofs.Yteaclacbdelinaa.Cat
