/- The program's may and Load. -/
import Derived.Test.YtfbdkafpfminlaaHeapF
import Derived.Test.YtfbdkafpfminlaaHeapImL
namespace Go.Proofs.Ytfbdkafpfminlaa.Heap.Im
open Go.RowKit Go.Lib

theorem find_iff {l acc : List Tm} (hp : l.Perm acc) (id : Int) : (∀ t ∈ l, t.id ≠ id) ↔ ¬ findK id acc < acc.length := by
  constructor
  · intro h
    rw [(findK_none id acc).2 fun t ht => h t (hp.mem_iff.2 ht)]
    omega
  · intro h t ht e
    have h1 : findK id acc = acc.length := by have := findK_le id acc; omega
    exact (findK_none id acc).1 h1 t (hp.mem_iff.1 ht) e
set_option maxRecDepth 100000 in
set_option maxHeartbeats 4000000 in
theorem may_im {Q : Nat} {F : Nat → Prop} {l acc : List Tm} {most next : Int} (t : Tm) (ht : Ints.I64 t.id) (w : World) (h : MQ w Q F l most next) (hp : l.Perm acc) :
    Calls Try.prog 29 #[ptr Q, tV t] w fun e w' => e = .returned (.bool (decide (okT next acc t))) ∧ Below w.heap.size w w' := by
  obtain ⟨U, hU⟩ : ∃ U, w.heap.size = U := ⟨_, rfl⟩
  obtain ⟨Y, hY⟩ : ∃ Y, w.alloc (.cells #[.int .i64 t.due, .int .i64 t.id, .int .i64 t.what] 45) = Y := ⟨_, rfl⟩
  have hbY : Below w.heap.size w Y := by rw [← hY]; exact (Below.refl _ w).alloc (Nat.le_refl _) _
  have hUY : Y.heap[U]? = some (.cells t.cells 45 (0, 0)) := by rw [← hY, ← hU]; exact heap_alloc_new w _
  have HC : Hid (∀ V, Below Y.heap.size Y V → (V.cell? ⟨U, 0, none⟩ = some (.int .i64 t.due) ∧ V.cell? ⟨U, 1, none⟩ = some (.int .i64 t.id)) ∧ V.cell? ⟨Q, 1, none⟩ = some (.int .i64 next) ∧ Hid (Below w.heap.size w V)) := Lib.hid (fun V hV => by
    obtain ⟨u0, u1, _⟩ := tm_at ((hV.block U (Array.getElem?_eq_some_iff.1 hUY).1).trans hUY)
    have hb := below_then hbY hV
    exact ⟨⟨u0, u1⟩, (h.under hb).c.2.1, Lib.hid hb⟩)
  have HL : Hid (∀ V, Below Y.heap.size Y V → ∃ b, V.cell? ⟨Q, 3, none⟩ = some (.map (some b)) ∧ ((∃ k : Nat, Hid (¬ okT next acc t) ∧ (Instr.lookup 51 (.map (some b)) (.int .i64 t.id) true).run Try.prog V = .ok (.tuple #[.int .i64 (k : Nat), .bool true]) V) ∨
      (Hid (¬ findK t.id acc < acc.length) ∧ (Instr.lookup 51 (.map (some b)) (.int .i64 t.id) true).run Try.prog V = .ok (.tuple #[.int .i64 0, .bool false]) V))) := Lib.hid (fun V hV => by
    obtain ⟨b, c3, hc⟩ := (h.under (below_then hbY hV)).look ht
    refine ⟨b, c3, ?_⟩
    rcases hc with ⟨k, hk, he, hr⟩ | ⟨hn, hr⟩
    · refine .inl ⟨k, Lib.hid (fun hok => ?_), hr⟩
      exact (find_iff hp t.id).2 hok.2.2.2 _ (List.mem_of_getElem? (nthT_at hk)) he
    · exact .inr ⟨Lib.hid ((find_iff hp t.id).1 hn), hr⟩)
  obtain ⟨r, hr⟩ : ∃ r, decide (okT next acc t) = r := ⟨_, rfl⟩
  rw [hr]
  have HR := Lib.hid hr
  clear h hp hbY hUY hr ht
  obtain ⟨⟨u0, u1⟩, c1, HB⟩ := HC.out Y (Below.refl _ _)
  obtain ⟨⟨d0, d1⟩, e1, HBD⟩ := HC.out Y.drew (Below.refl _ _).drew
  obtain ⟨b, c3, hl⟩ := HL.out Y.drew (Below.refl _ _).drew
  have c3' : Y.cell? ⟨Q, 3, none⟩ = some (.map (some b)) := c3
  have hl1 : (∃ k : Nat, Hid (¬ okT next acc t) ∧ (Instr.lookup 51 (.map (some b)) (.int .i64 t.id) true).run Try.prog Y.drew = .ok (.tuple #[.int .i64 (k : Nat), .bool true]) Y.drew) ∨
      (Hid (¬ findK t.id acc < acc.length) ∧ (Instr.lookup 51 (.map (some b)) (.int .i64 t.id) true).run Try.prog Y.drew = .ok (.tuple #[.int .i64 0, .bool false]) Y.drew) := hl
  clear hl d0 d1 e1 c3
  go_enter Try.func29, Try.ntmps29
  go_wp2_with fail
  clear hY hU
  rcases hl1 with ⟨k, hno, hl⟩ | ⟨hno, hl⟩
  · obtain rfl : r = false := by rw [← HR.out]; exact decide_eq_false hno.out
    go_region
    clear u0 u1 c1 c3' hl
    obtain ⟨V, hV⟩ : ∃ V, Y.drew = V := ⟨_, rfl⟩
    obtain ⟨⟨u0, u1⟩, c1, HB1⟩ := HC.out Y.drew (Below.refl _ _).drew
    rw [hV] at u0 u1 c1 HB1 ⊢
    clear hV
    by_cases k1 : 0 ≤ t.due
    · have d1 : decide ((0 : Int) ≤ t.due) = true := decide_eq_true k1
      by_cases k2 : 1 ≤ t.id
      · have d2 : decide ((1 : Int) ≤ t.id) = true := decide_eq_true k2
        by_cases k3 : t.id < next
        · have d3 : decide (t.id < next) = true := decide_eq_true k3
          clear HC HL HR hno
          go_wp2_with fail
          go_quiet (fail)
          go_wp2_with fail
          go_ret
          exact ⟨rfl, below_drewN HB1.out _⟩
        · have d3 : decide (t.id < next) = false := decide_eq_false k3
          clear HC HL HR hno
          go_wp2_with fail
          go_quiet (fail)
          go_wp2_with fail
          go_ret
          exact ⟨rfl, below_drewN HB1.out _⟩
      · have d2 : decide ((1 : Int) ≤ t.id) = false := decide_eq_false k2
        clear HC HL HR hno
        go_wp2_with fail
        go_quiet (fail)
        go_wp2_with fail
        go_ret
        exact ⟨rfl, below_drewN HB1.out _⟩
    · have d1 : decide ((0 : Int) ≤ t.due) = false := decide_eq_false k1
      clear HC HL HR hno
      go_wp2_with fail
      go_quiet (fail)
      go_wp2_with fail
      go_ret
      exact ⟨rfl, below_drewN HB1.out _⟩
  · go_region
    clear u0 u1 c1 c3' hl
    obtain ⟨V, hV⟩ : ∃ V, Y.drew = V := ⟨_, rfl⟩
    obtain ⟨⟨u0, u1⟩, c1, HB1⟩ := HC.out Y.drew (Below.refl _ _).drew
    rw [hV] at u0 u1 c1 HB1 ⊢
    clear hV
    by_cases k1 : 0 ≤ t.due
    · have d1 : decide ((0 : Int) ≤ t.due) = true := decide_eq_true k1
      by_cases k2 : 1 ≤ t.id
      · have d2 : decide ((1 : Int) ≤ t.id) = true := decide_eq_true k2
        by_cases k3 : t.id < next
        · have d3 : decide (t.id < next) = true := decide_eq_true k3
          obtain rfl : r = true := by rw [← HR.out]; exact decide_eq_true ⟨k1, k2, k3, hno.out⟩
          clear HC HL HR hno
          go_wp2_with fail
          go_quiet (fail)
          go_wp2_with fail
          go_ret
          exact ⟨rfl, below_drewN HB1.out _⟩
        · have d3 : decide (t.id < next) = false := decide_eq_false k3
          obtain rfl : r = false := by rw [← HR.out]; exact decide_eq_false (fun h => k3 h.2.2.1)
          clear HC HL HR hno
          go_wp2_with fail
          go_quiet (fail)
          go_wp2_with fail
          go_ret
          exact ⟨rfl, below_drewN HB1.out _⟩
      · have d2 : decide ((1 : Int) ≤ t.id) = false := decide_eq_false k2
        obtain rfl : r = false := by rw [← HR.out]; exact decide_eq_false (fun h => k2 h.2.1)
        clear HC HL HR hno
        go_wp2_with fail
        go_quiet (fail)
        go_wp2_with fail
        go_ret
        exact ⟨rfl, below_drewN HB1.out _⟩
    · have d1 : decide ((0 : Int) ≤ t.due) = false := decide_eq_false k1
      obtain rfl : r = false := by rw [← HR.out]; exact decide_eq_false (fun h => k1 h.1)
      clear HC HL HR hno
      go_wp2_with fail
      go_quiet (fail)
      go_wp2_with fail
      go_ret
      exact ⟨rfl, below_drewN HB1.out _⟩
end Go.Proofs.Ytfbdkafpfminlaa.Heap.Im
