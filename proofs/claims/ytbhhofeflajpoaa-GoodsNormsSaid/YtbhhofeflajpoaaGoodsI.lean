/- What the laws ask of the program's goods; what must come, whatever the arguments are. -/
import Derived.Test.YtbhhofeflajpoaaGoodsD
import Derived.Test.YtbhhofeflajpoaaGoodsE
import Derived.Test.YtbhhofeflajpoaaGoodsF
import Derived.Test.YtbhhofeflajpoaaGoodsH
import Derived.Test.YtbhhofeflajpoaaIntMaps
namespace Go.Proofs.Ytbhhofeflajpoaa.Goods
open Go.RowKit Go.Lib

/-- Numbers as the program has them. -/
def In64 (l : List St) : Prop := ∀ t ∈ l, Ints.I64 t.kind ∧ Ints.I64 t.qty
/-- The program's functions answer in the document's words. -/
structure Impl : Prop where
  norm : ∀ (a : Option Addr) (n c : Nat) (l : List St) (w : World), l.length = n → Sts w a l → n ≤ 1024 → In64 l →
    Calls Try.prog 8 #[.slice a n c] w fun e w' => ∃ v, e = .returned (.tuple #[v, .int .i64 (errN l)]) ∧ OwnS w' w.heap.size v (valN l) ∧ Below w.heap.size w w'
  check : ∀ (a : Option Addr) (n c : Nat) (l : List St) (ty : Int) (w : World), l.length = n → Sts w a l → n ≤ 1024 → In64 l →
    Calls Try.prog 13 #[.slice a n c, .int .i64 ty] w fun e w' => e = .returned (.int .i64 (chk l ty)) ∧ Below w.heap.size w w'
  add : ∀ (a : Option Addr) (n c : Nat) (l : List St) (b : Option Addr) (m d : Nat) (k : List St) (w : World), l.length = n → Sts w a l → n ≤ 1024 → In64 l → k.length = m → Sts w b k → m ≤ 1024 → In64 k →
    Calls Try.prog 17 #[.slice a n c, .slice b m d] w fun e w' => ∃ v, e = .returned (.tuple #[v, .int .i64 (errA l k)]) ∧ OwnS w' w.heap.size v (valA l k) ∧ Below w.heap.size w w'
  sub : ∀ (a : Option Addr) (n c : Nat) (l : List St) (b : Option Addr) (m d : Nat) (k : List St) (w : World), l.length = n → Sts w a l → n ≤ 1024 → In64 l → k.length = m → Sts w b k → m ≤ 1024 → In64 k →
    Calls Try.prog 19 #[.slice a n c, .slice b m d] w fun e w' => ∃ v, e = .returned (.tuple #[v, .int .i64 (errS l k)]) ∧ OwnS w' w.heap.size v (valS l k) ∧ Below w.heap.size w w'
  times : ∀ (a : Option Addr) (n c : Nat) (l : List St) (k : Int) (w : World), l.length = n → Sts w a l → n ≤ 1024 → In64 l → Ints.I64 k →
    Calls Try.prog 21 #[.slice a n c, .int .i64 k] w fun e w' => ∃ v, e = .returned (.tuple #[v, .int .i64 (errT l k)]) ∧ OwnS w' w.heap.size v (valT l k) ∧ Below w.heap.size w w'
  count : ∀ (a : Option Addr) (n c : Nat) (l : List St) (k : Int) (w : World), l.length = n → Sts w a l → n ≤ 1024 → In64 l → Ints.I64 k →
    Calls Try.prog 15 #[.slice a n c, .int .i64 k] w fun e w' => e = .returned (.int .i64 (cnt (valN l) k)) ∧ Below w.heap.size w w'
  size : ∀ (a : Option Addr) (n c : Nat) (l : List St) (w : World), l.length = n → Sts w a l → n ≤ 1024 → In64 l →
    Calls Try.prog 10 #[.slice a n c] w fun e w' => e = .returned (.tuple #[.int .i64 (tot (valN l)), .int .i64 (errN l)]) ∧ Below w.heap.size w w'

theorem cnt_le_tot : ∀ {l : List St}, (∀ s ∈ l, 0 ≤ s.qty) → ∀ k, cnt l k ≤ tot l
  | [], _, k => by simp [cnt, tot]
  | s :: l, h, k => by
    have h1 := cnt_le_tot (l := l) (fun x hx => h x (List.mem_cons_of_mem _ hx)) k
    have h2 := h s (by simp)
    unfold cnt tot
    split <;> omega
theorem errN_small {l : List St} (h : Fine l) (ht : tot l ≤ mq) : errN l = 0 := errN_ok h fun ⟨k, hk⟩ => by
  have := cnt_le_tot (fun s hs => (h s hs).2) k
  omega
def aw0 : List St := [⟨2, 5⟩, ⟨1, 1⟩, ⟨2, 3⟩]
def aw1 : List St := [⟨1, 1⟩, ⟨2, 8⟩]
def aw2 : List St := [⟨1, 2⟩]
theorem in_aw0 : In64 aw0 := fun s hs => by simp [aw0] at hs; rcases hs with rfl | rfl | rfl <;> simp [Ints.I64]
theorem in_aw1 : In64 aw1 := fun s hs => by simp [aw1] at hs; rcases hs with rfl | rfl <;> simp [Ints.I64]
theorem in_aw2 : In64 aw2 := fun s hs => by simp [aw2] at hs; subst hs; simp [Ints.I64]
theorem in_nil : In64 [] := fun s hs => by simp at hs
theorem in_append {l k : List St} (h : In64 l) (h2 : In64 k) : In64 (l ++ k) := fun s hs => (List.mem_append.1 hs).elim (h s) (h2 s)
theorem kind_nl : ∀ {l : List St}, ∀ s ∈ nl l, ∃ x ∈ l, x.kind = s.kind
  | [], s, h => by simp [nl] at h
  | y :: l, s, h => by
    have h1 : s ∈ addS y (nl l) := h
    rcases mem_addS h1 with e | ⟨x, hx, e⟩
    · exact ⟨y, by simp, e.symm⟩
    · obtain ⟨z, hz, e2⟩ := kind_nl x hx
      exact ⟨z, List.mem_cons_of_mem _ hz, by rw [e2, e]⟩
theorem in_valN {l : List St} (h : In64 l) : In64 (valN l) := fun s hs => by
  have h1 := valN_le l s hs
  have h2 := (norm_valN l).qty s hs
  unfold mq at h1
  refine ⟨?_, by unfold Ints.I64; omega⟩
  unfold valN at hs
  split at hs
  · obtain ⟨x, hx, e⟩ := kind_nl s hs
    rw [← e]
    exact (h x hx).1
  · simp at hs
theorem in_nl {l : List St} (h : In64 l) (he : errN l = 0) : In64 (nl l) := by
  have := in_valN h
  rw [valN_ok he] at this
  exact this
theorem in_valA {l k : List St} (h : In64 l) (h2 : In64 k) : In64 (valA l k) := by
  unfold valA
  split
  · rename_i he
    obtain ⟨e1, e2⟩ := errB_zero he
    exact in_valN (in_append (in_nl h e1) (in_nl h2 e2))
  · exact in_nil
theorem fine_aw0 : Fine aw0 := fun s hs => by simp [aw0] at hs; rcases hs with rfl | rfl | rfl <;> simp
theorem fine_aw1 : Fine aw1 := fun s hs => by simp [aw1] at hs; rcases hs with rfl | rfl <;> simp
theorem fine_aw2 : Fine aw2 := fun s hs => by simp [aw2] at hs; subst hs; simp
theorem err_aw0 : errN aw0 = 0 := errN_small fine_aw0 (by decide)
theorem err_aw1 : errN aw1 = 0 := errN_small fine_aw1 (by decide)
theorem err_aw2 : errN aw2 = 0 := errN_small fine_aw2 (by decide)
theorem nl_aw0 : nl aw0 = aw1 := rfl
theorem nl_aw1 : nl aw1 = aw1 := rfl
theorem nl_aw2 : nl aw2 = aw2 := rfl
theorem val_aw0 : valN aw0 = aw1 := by rw [valN_ok err_aw0]; rfl
theorem val_aw1 : valN aw1 = aw1 := by rw [valN_ok err_aw1]; rfl
theorem sub_aw : errS aw1 aw2 = 7 := by
  have h : errB aw1 aw2 = 0 := by unfold errB; rw [err_aw1, err_aw2]; rfl
  unfold errS
  rw [if_pos h, if_pos]
  rw [nl_aw1, nl_aw2]
  exact ⟨⟨1, 2⟩, by simp [aw2], by decide⟩
theorem chk_aw : chk aw1 1 = 1 := chk_no fun ⟨_, _, _, h⟩ => by have := h ⟨2, 8⟩ (by simp [aw1]); simp at this
/-- Stacks that a composite literal lays. -/
theorem sts_lit {w : World} {g : Nat} {cs : Array Value} {T : TypeId} (l : List St) (h : w.heap[g]? = some (.cells cs T (0, 0))) (hc : cs.toList = scells l) : Sts w (some ⟨g, 0, none⟩) l := fun i t hi => by
  have hq : ∀ j u, (stCells t)[j]? = some u → w.cell? ⟨g, 0 + i * 2 + j, none⟩ = some u := fun j u hj => by
    rw [Nat.zero_add]
    refine cell_block (j := i * 2 + j) h ?_
    rw [← Array.getElem?_toList, hc]
    exact scells_at l i t hi j u hj
  exact ⟨g, 0, rfl, (Array.getElem?_eq_some_iff.1 h).1, hq 0 _ rfl, hq 1 _ rfl⟩
open Classical in
set_option maxRecDepth 100000 in
set_option maxHeartbeats 4000000 in
theorem awake_in (I : Impl) (w : World) : Calls Try.prog 7 #[] w fun e w' => e = .returned (.bool true) ∧ Below w.heap.size w w' := by
  have H0 : Hid (∀ W a, Below w.heap.size w W → Sts W a aw0 → Calls Try.prog 8 #[.slice a 3 3] W fun e w' => ∃ v m c, e = .returned (.tuple #[.slice v m c, .int .i64 0]) ∧ Hid (aw1.length = m ∧ Sts w' v aw1 ∧ Below w.heap.size w w')) := Lib.hid (fun W a hW hs => by
    have := I.norm a 3 3 aw0 W rfl hs (by omega) in_aw0
    rw [err_aw0, val_aw0] at this
    refine this.mono ?_
    rintro e w' ⟨v, rfl, h1, h2⟩
    obtain ⟨a', c', rfl, h3⟩ := sts_own h1
    exact ⟨a', _, c', rfl, Lib.hid ⟨rfl, h3, below_then hW h2⟩⟩)
  have H1 : Hid (∀ W a m c b, Below w.heap.size w W → aw1.length = m → Sts W a aw1 → Sts W b aw2 → Calls Try.prog 19 #[.slice a m c, .slice b 1 1] W fun e w' => ∃ v, e = .returned (.tuple #[v, .int .i64 7]) ∧ Hid (Below W.heap.size W w')) := Lib.hid (fun W a m c b hW hm hs ht => by
    have := I.sub a m c aw1 b 1 1 aw2 W hm hs (by rw [← hm]; decide) in_aw1 rfl ht (by omega) in_aw2
    rw [sub_aw] at this
    refine this.mono ?_
    rintro e w' ⟨v, rfl, _, h2⟩
    exact ⟨v, rfl, Lib.hid h2⟩)
  have H2 : Hid (∀ W a m c, aw1.length = m → Sts W a aw1 → Calls Try.prog 10 #[.slice a m c] W fun e w' => e = .returned (.tuple #[.int .i64 9, .int .i64 0]) ∧ Hid (Below W.heap.size W w')) := Lib.hid (fun W a m c hm hs => by
    have := I.size a m c aw1 W hm hs (by rw [← hm]; decide) in_aw1
    rw [err_aw1, val_aw1] at this
    exact this.mono fun _ _ ⟨e, h⟩ => ⟨e, Lib.hid h⟩)
  have H3 : Hid (∀ W a m c, aw1.length = m → Sts W a aw1 → Calls Try.prog 15 #[.slice a m c, .int .i64 2] W fun e w' => e = .returned (.int .i64 8) ∧ Hid (Below W.heap.size W w')) := Lib.hid (fun W a m c hm hs => by
    have := I.count a m c aw1 2 W hm hs (by rw [← hm]; decide) in_aw1 (by unfold Ints.I64; omega)
    rw [val_aw1] at this
    exact this.mono fun _ _ ⟨e, h⟩ => ⟨e, Lib.hid h⟩)
  have H4 : Hid (∀ W a m c, aw1.length = m → Sts W a aw1 → Calls Try.prog 13 #[.slice a m c, .int .i64 1] W fun e w' => e = .returned (.int .i64 1) ∧ Hid (Below W.heap.size W w')) := Lib.hid (fun W a m c hm hs => by
    have := I.check a m c aw1 1 W hm hs (by rw [← hm]; decide) in_aw1
    rw [chk_aw] at this
    exact this.mono fun _ _ ⟨e, h⟩ => ⟨e, Lib.hid h⟩)
  have H5 : Hid (∀ W a m c b, aw1.length = m → Sts W a aw1 → Sts W b aw1 → Calls Try.prog 12 #[.slice a m c, .slice b 2 2] W fun e w' => e = .returned (.bool true) ∧ Hid (Below W.heap.size W w')) := Lib.hid (fun W a m c b hm hs ht => by
    have := dsame a m c aw1 b 2 2 aw1 W hm hs (by rw [← hm]; decide) rfl ht (by omega)
    rw [decide_eq_true rfl] at this
    exact this.mono fun _ _ ⟨e, h⟩ => ⟨e, Lib.hid h⟩)
  go_enter Try.func7, Try.ntmps7
  go_wp2_with fail
  refine (H0.out _ _ ((Below.refl _ w).alloc (Nat.le_refl _) _) (sts_lit aw0 (heap_alloc_new w _) rfl)).mono ?_
  rintro e w1 ⟨v, m, c, rfl, HV⟩
  go_wp2_with fail
  have A1 : Below w1.heap.size w1 (w1.alloc (.cells #[.int .i64 1, .int .i64 2] 39)) := (Below.refl _ w1).alloc (Nat.le_refl _) _
  refine (H1.out _ v m c _ (below_then HV.out.2.2 A1) HV.out.1 (HV.out.2.1.under A1) (sts_lit aw2 (heap_alloc_new w1 _) rfl)).mono ?_
  rintro e w2 ⟨x, rfl, HB2⟩
  have HV2 : Hid (aw1.length = m ∧ Sts w2 v aw1 ∧ Below w.heap.size w w2) := Lib.hid ⟨HV.out.1, (HV.out.2.1.under A1).under HB2.out, below_then (below_then HV.out.2.2 A1) HB2.out⟩
  clear A1 HB2
  go_wp2_with fail
  refine (H2.out _ v m c HV2.out.1 HV2.out.2.1).mono ?_
  rintro e w3 ⟨rfl, HB3⟩
  have HV3 : Hid (aw1.length = m ∧ Sts w3 v aw1 ∧ Below w.heap.size w w3) := Lib.hid ⟨HV2.out.1, HV2.out.2.1.under HB3.out, below_then HV2.out.2.2 HB3.out⟩
  clear HV HV2 HB3
  go_wp2_with fail
  have A3 : Below w3.heap.size w3 (w3.alloc (.cells #[.int .i64 1, .int .i64 1, .int .i64 2, .int .i64 8] 39)) := (Below.refl _ w3).alloc (Nat.le_refl _) _
  refine (H5.out _ v m c _ HV3.out.1 (HV3.out.2.1.under A3) (sts_lit aw1 (heap_alloc_new w3 _) rfl)).mono ?_
  rintro e w4 ⟨rfl, HB4⟩
  have HV4 : Hid (aw1.length = m ∧ Sts w4 v aw1 ∧ Below w.heap.size w w4) := Lib.hid ⟨HV3.out.1, (HV3.out.2.1.under A3).under HB4.out, below_then (below_then HV3.out.2.2 A3) HB4.out⟩
  clear HV3 HB4 A3
  go_wp2_with fail
  refine (H3.out _ v m c HV4.out.1 HV4.out.2.1).mono ?_
  rintro e w5 ⟨rfl, HB5⟩
  have HV5 : Hid (aw1.length = m ∧ Sts w5 v aw1 ∧ Below w.heap.size w w5) := Lib.hid ⟨HV4.out.1, HV4.out.2.1.under HB5.out, below_then HV4.out.2.2 HB5.out⟩
  clear HV4 HB5
  go_wp2_with fail
  refine (H4.out _ v m c HV5.out.1 HV5.out.2.1).mono ?_
  rintro e w6 ⟨rfl, HB6⟩
  have HB7 := Lib.hid (below_then HV5.out.2.2 HB6.out)
  clear HV5 HB6
  go_wp2_with fail
  go_ret
  exact ⟨rfl, HB7.out⟩
end Go.Proofs.Ytbhhofeflajpoaa.Goods
