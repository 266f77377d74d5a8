/- The program's add, Insert, Cancel. -/
import Derived.Test.YtfbdkafpfminlaaHeapImI
namespace Go.Proofs.Ytfbdkafpfminlaa.Heap.Im
open Go.RowKit Go.Lib

theorem drew_below (w : World) (n : Nat) : Below w.heap.size w (w.drewN n) := ((Gr.refl w).drewN n).below
theorem zero_int (w : World) : (zeroValue 3).run Try.prog w = .ok (.int .i64 0) w := by
  have h : (Try.prog.info? 3).map (fun i => i.zero) = some (some (.int .i64 0)) := by kernel_rfl
  cases hi : Try.prog.info? 3 with
  | none => rw [hi] at h; cases h
  | some i =>
    rw [hi] at h
    have hz : i.zero = some (.int .i64 0) := Option.some.inj h
    simp [zeroValue, typeInfo, hi, hz, Result.andThen]
/-- What a look at the places says. -/
theorem MQ.look {w : World} {Q : Nat} {F : Nat → Prop} {l : List Tm} {most next : Int} (h : MQ w Q F l most next) {id : Int} (hid : Ints.I64 id) :
    ∃ b, w.cell? ⟨Q, 3, none⟩ = some (.map (some b)) ∧
      ((∃ k, k < l.length ∧ (nthT l k).id = id ∧ (Instr.lookup 51 (.map (some b)) (.int .i64 id) true).run Try.prog w = .ok (.tuple #[.int .i64 (k : Nat), .bool true]) w) ∨
       ((∀ t ∈ l, t.id ≠ id) ∧ (Instr.lookup 51 (.map (some b)) (.int .i64 id) true).run Try.prog w = .ok (.tuple #[.int .i64 0, .bool false]) w)) := by
  obtain ⟨lv, ps, b, h, _⟩ := h
  obtain ⟨M, hM, hP⟩ := h.map
  have hr := hM.look_ok Try.underlying3 Try.underlying51 (zero_int w) hid
  refine ⟨b, h.c.2.2.2, ?_⟩
  by_cases hx : ∃ t ∈ l, t.id = id
  · obtain ⟨t, ht, e⟩ := hx
    obtain ⟨k, hk, e2⟩ := List.mem_iff_getElem.1 ht
    have h1 : l[k]? = some t := by rw [List.getElem?_eq_getElem hk, e2]
    have h2 := hP.at_ k t h1
    rw [e] at h2
    rw [h2] at hr
    exact .inl ⟨k, hk, by rw [nthT_of h1, e], hr⟩
  · have hn : ∀ t ∈ l, t.id ≠ id := fun t ht e => hx ⟨t, ht, e⟩
    rw [hP.no id hn] at hr
    exact .inr ⟨hn, hr⟩
theorem MQ.bump {w : World} {Q : Nat} {F : Nat → Prop} {l : List Tm} {most next : Int} (h : MQ w Q F l most next) (m : Int) :
    MQ (w.setCell ⟨Q, 1, none⟩ (.int .i64 m)) Q F l most m ∧ StepF w (w.setCell ⟨Q, 1, none⟩ (.int .i64 m)) F F := by
  obtain ⟨lv, ps, b, h, hF⟩ := h
  have hg : w.grownBy (w.setCell ⟨Q, 1, none⟩ (.int .i64 m)) (some Q) := only_setCell (only_refl w (some Q)) 1 _
  obtain ⟨M, hM, hP⟩ := h.map
  have hk : ∀ k, foot Q lv ps b k → k ≠ Q → (w.setCell ⟨Q, 1, none⟩ (.int .i64 m)).heap[k]? = w.heap[k]? := fun k hk hne => hg.block k (h.lt k hk) (fun e => hne (Option.some.inj e))
  refine ⟨⟨lv, ps, b, ⟨heap_setCell_same w Q 1 _ _ _ h.head, own_same h.row (fun k e => hk k (.inr (.inr (.inl e))) (fun e2 => h.lq (by rw [e, e2]))), fun i p t hp ht => (hk p (.inr (.inr (.inr (List.mem_of_getElem? hp)))) (h.ap p (List.mem_of_getElem? hp)).1).trans (h.tms i p t hp ht),
    ⟨M, hM.of_block (hk b (.inr (.inl rfl)) h.qb.symm), hP⟩, h.ids, h.qb, h.lq, h.lb, h.ap⟩, hF⟩, hg.os, hg.tape, hg.output, hg.size, fun j hj hne => hg.block j hj (fun e => hne ((hF j).2 (.inl (Option.some.inj e)))), fun _ hj => .inl hj⟩
set_option maxRecDepth 100000 in
set_option maxHeartbeats 2000000 in
theorem add_im {Q : Nat} {F : Nat → Prop} {l : List Tm} {most next : Int} (due what : Int) (w : World) (h : MQ w Q F l most next) (hl : l.length ≤ 2048) (hn1 : 1 ≤ next) (hn2 : next ≤ mt) (hnew : ∀ x ∈ l, x.id ≠ next) (hh : HeapOK l) :
    Calls Try.prog 34 #[ptr Q, .int .i64 due, .int .i64 what] w fun e w' => e = .returned (.int .i64 next) ∧ ∃ F' l', MQ w' Q F' l' most (next + 1) ∧ StepF w w' F F' ∧ l'.Perm (⟨due, next, what⟩ :: l) ∧ HeapOK l' := by
  have c1 := h.c.2.1
  have f1 : w.frozen? ⟨Q, 1, none⟩ = false := by
    obtain ⟨lv, ps, b, h, _⟩ := h
    exact free_block 1 h.head
  unfold mt at hn2
  obtain ⟨h1, s1⟩ := h.bump (next + 1)
  have HP : Hid (Calls Try.prog 30 #[ptr Q, tV ⟨due, next, what⟩] (w.setCell ⟨Q, 1, none⟩ (.int .i64 (next + 1))) fun e w' => e = .returned (.tuple #[]) ∧ Hid (∃ F' l', MQ w' Q F' l' most (next + 1) ∧ StepF w w' F F' ∧ l'.Perm (⟨due, next, what⟩ :: l) ∧ HeapOK l')) := Lib.hid (by
    refine (put_im ⟨due, next, what⟩ _ h1 hl (by show Ints.I64 next; unfold Ints.I64; omega) hnew hh).mono ?_
    rintro e w' ⟨rfl, F', l', h2, s2, p2, k2⟩
    exact ⟨rfl, Lib.hid ⟨F', l', h2, s1.trans s2, p2, k2⟩⟩)
  have hn3 : next ≤ 2 ^ 40 := by omega
  clear h hl hnew hh h1 s1 hn2
  go_enter Try.func34, Try.ntmps34
  go_wp2_with fail
  refine HP.out.mono ?_
  rintro e w' ⟨rfl, H⟩
  go_wp2_with fail
  go_ret
  exact ⟨rfl, H.out⟩
set_option maxRecDepth 100000 in
set_option maxHeartbeats 4000000 in
theorem insert_im {Q : Nat} {F : Nat → Prop} {q : QS} (due what : Int) (w : World) (h : HQ w Q F q) (hg : Good q) :
    Calls Try.prog 14 #[ptr Q, .int .i64 due, .int .i64 what] w fun e w' => e = .returned (.tuple #[.int .i64 (ins q due what).2.1, .int .i64 (ins q due what).2.2]) ∧ ∃ F', HQ w' Q F' (ins q due what).1 ∧ StepF w w' F F' := by
  have hm0 : 0 < q.most := by have := hg.most; omega
  have HQ0 := Lib.hid h
  obtain ⟨l, hq, hh, hp⟩ := h
  have HM : Hid (∀ W, w = W → Calls Try.prog 33 #[ptr Q] W fun e w' => e = .returned (.bool true) ∧ W = w') := Lib.hid (fun W e => by rw [← e]; exact made_im w hq hm0)
  have hln : l.length = q.l.length := hp.length_eq
  have hle := hg.len
  have hmo := hg.most.2
  by_cases hd : due < 0
  · have hi : ins q due what = (q, 0, 1) := by unfold ins; rw [if_pos hd]
    rw [hi]
    clear hq hh hp hln hle hmo hg hm0 hi
    go_enter Try.func14, Try.ntmps14
    go_wp2_with (go_at_call 33; refine (HM.out _ rfl).mono ?_; rintro e w' ⟨rfl, rfl⟩)
    go_ret2
    exact ⟨rfl, F, HQ0.out, StepF.refl w F⟩
  · obtain ⟨c0, c1, a, c, c2⟩ := hq.c
    obtain ⟨n, hn⟩ : ∃ n, l.length = n := ⟨_, rfl⟩
    rw [hn] at c2
    by_cases hf : q.most ≤ q.l.length
    · have hi : ins q due what = (q, 0, 4) := by unfold ins; rw [if_neg hd, if_pos (.inl hf)]
      have he : ((n : Int) == q.most) = true := by simp; omega
      have HE : Hid (HQ w Q F q) := HQ0
      rw [hi]
      obtain ⟨m, hmm⟩ : ∃ m, q.most = m := ⟨_, rfl⟩
      rw [hmm] at c0 he
      clear hq hh hp hln hle hmo hg hm0 hi hn hf hmm
      go_enter Try.func14, Try.ntmps14
      go_wp2_with (go_at_call 33; refine (HM.out _ rfl).mono ?_; rintro e w' ⟨rfl, rfl⟩)
      go_quiet (fail)
      go_wp2_with fail
      go_ret2
      exact ⟨rfl, F, HE.out.under (drew_below w _), StepF.below F (drew_below w _)⟩
    · have he : ((n : Int) == q.most) = false := by simp; omega
      by_cases hx : q.next = mt
      · have hi : ins q due what = (q, 0, 4) := by unfold ins; rw [if_neg hd, if_pos (.inr hx)]
        rw [hi]
        rw [hx] at c1
        unfold mt at c1
        obtain ⟨m, hmm⟩ : ∃ m, q.most = m := ⟨_, rfl⟩
        rw [hmm] at c0 he
        clear hq hh hp hln hle hmo hg hm0 hi hn hf hmm hx
        go_enter Try.func14, Try.ntmps14
        go_wp2_with (go_at_call 33; refine (HM.out _ rfl).mono ?_; rintro e w' ⟨rfl, rfl⟩)
        go_quiet (fail)
        go_wp2_with fail
        go_ret2
        exact ⟨rfl, F, HQ0.out.under (drew_below w _), StepF.below F (drew_below w _)⟩
      · have hi : ins q due what = (⟨put q.l ⟨due, q.next, what⟩, q.most, q.next + 1⟩, q.next, 0) := by unfold ins; rw [if_neg hd, if_neg (by rintro (h1 | h1); exact hf h1; exact hx h1)]
        rw [hi]
        have hxe : (q.next == 1099511627776) = false := by unfold mt at hx; simpa using hx
        have HA : Hid (∀ W, Below w.heap.size w W → Calls Try.prog 34 #[ptr Q, .int .i64 due, .int .i64 what] W fun e w' => e = .returned (.int .i64 q.next) ∧ Hid (∃ F', HQ w' Q F' ⟨put q.l ⟨due, q.next, what⟩, q.most, q.next + 1⟩ ∧ StepF w w' F F')) := Lib.hid (fun W hW => by
          refine (add_im due what W (hq.under hW) (by omega) hg.next.1 hg.next.2 (fun x hx1 e => by have := (hg.ids x (hp.mem_iff.1 hx1)).2; omega) hh).mono ?_
          rintro e w' ⟨rfl, F', l', h2, s2, p2, k2⟩
          exact ⟨rfl, Lib.hid ⟨F', ⟨l', h2, k2, p2.trans ((List.Perm.cons _ hp).trans (perm_put q.l _))⟩, (StepF.below F hW).trans s2⟩⟩)
        obtain ⟨m, hmm⟩ : ∃ m, q.most = m := ⟨_, rfl⟩
        obtain ⟨nx, hnx⟩ : ∃ nx, q.next = nx := ⟨_, rfl⟩
        have HH := Lib.hid hnx; have HH2 := Lib.hid hmm
        have HA2 : Hid (∀ W, Below w.heap.size w W → Calls Try.prog 34 #[ptr Q, .int .i64 due, .int .i64 what] W fun e w' => e = .returned (.int .i64 nx) ∧ Hid (∃ F', HQ w' Q F' ⟨put q.l ⟨due, nx, what⟩, q.most, nx + 1⟩ ∧ StepF w w' F F')) := by rw [← hnx]; exact HA
        rw [hmm] at c0 he
        rw [hnx] at c1 hxe ⊢
        clear hq hh hp hln hle hmo hg hm0 hi hn hf hmm hx hnx HA
        go_enter Try.func14, Try.ntmps14
        go_wp2_with (go_at_call 33; refine (HM.out _ rfl).mono ?_; rintro e w' ⟨rfl, rfl⟩)
        go_quiet (fail)
        go_wp2_with fail
        refine (HA2.out _ (drew_below w _)).mono ?_
        rintro e w' ⟨rfl, H⟩
        go_wp2_with fail
        go_ret2
        exact ⟨rfl, H.out⟩
end Go.Proofs.Ytfbdkafpfminlaa.Heap.Im
