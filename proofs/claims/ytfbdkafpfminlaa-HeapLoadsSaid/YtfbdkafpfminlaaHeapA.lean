/- Timers and the document's queue in memory; which comes ahead, where a number stands. -/
import Derived.Test.YtfbdkafpfminlaaRows
import Derived.Test.YtfbdkafpfminlaaHeapMath
import Derived.Test.YtfbdkafpfminlaaAppend
import Derived.Laws.OwnMore
import Derived.Laws.StructEq
import Derived.BigQuiet
import Derived.RegionTactic
import Derived.Deep.QuietTactic
namespace Go.Proofs.Ytfbdkafpfminlaa.Heap
open Go.RowKit Go.Lib

abbrev ptr (Q : Nat) : Value := .pointer (some ⟨Q, 0, none⟩)
abbrev tV (t : Tm) : Value := .agg #[.int .i64 t.due, .int .i64 t.id, .int .i64 t.what]
def tmCells (t : Tm) : List Value := [.int .i64 t.due, .int .i64 t.id, .int .i64 t.what]
def Tm.cells (t : Tm) : Array Value := #[.int .i64 t.due, .int .i64 t.id, .int .i64 t.what]
def tcells (l : List Tm) : List Value := l.flatMap tmCells
theorem tcells_cons (t : Tm) (l : List Tm) : tcells (t :: l) = tmCells t ++ tcells l := by simp [tcells]
theorem tcells_append (l m : List Tm) : tcells (l ++ m) = tcells l ++ tcells m := by simp [tcells]
theorem tcells_length : ∀ l : List Tm, (tcells l).length = l.length * 3
  | [] => rfl
  | p :: l => by rw [tcells_cons, List.length_append, tcells_length l]; simp [tmCells]; omega
theorem tcells_at : ∀ (l : List Tm) (i : Nat) (p : Tm), l[i]? = some p → ∀ (j : Nat) (v : Value), (tmCells p)[j]? = some v → (tcells l)[i * 3 + j]? = some v
  | [], i, p, h => by simp at h
  | q :: l, 0, p, h => by
    intro j v hj
    have : q = p := by simpa using h
    subst this
    have hlt : j < (tmCells q).length := (List.getElem?_eq_some_iff.1 hj).1
    rw [tcells_cons, List.getElem?_append_left (by simpa using hlt)]
    simpa using hj
  | q :: l, i + 1, p, h => by
    intro j v hj
    have ih := tcells_at l i p (by simpa using h) j v hj
    rw [tcells_cons, show (i + 1) * 3 + j = 3 + (i * 3 + j) by omega, List.getElem?_append_right (by simp [tmCells])]
    simpa [tmCells] using ih
theorem tcells_one : ∀ (l : List Tm), ∀ u ∈ tcells l, u.oneCell' = true
  | [], u, h => by cases h
  | p :: l, u, h => by
    rw [tcells_cons] at h
    rcases List.mem_append.1 h with h | h
    · simp [tmCells] at h
      rcases h with rfl | rfl | rfl <;> rfl
    · exact tcells_one l u h
theorem take_tm (l : List Tm) (n : Nat) : tcells (l.take n) = (tcells l).take (n * 3) := by
  induction n generalizing l with
  | zero => simp [tcells]
  | succ n ih =>
    cases l with
    | nil => simp [tcells]
    | cons k l => rw [List.take_succ_cons, tcells_cons, tcells_cons, ih, show (n + 1) * 3 = (tmCells k).length + n * 3 by show _ = 3 + n * 3; omega, List.take_length_add_append]
theorem drop_tm (l : List Tm) (n : Nat) : tcells (l.drop n) = (tcells l).drop (n * 3) := by
  induction n generalizing l with
  | zero => simp
  | succ n ih =>
    cases l with
    | nil => simp [tcells]
    | cons k l => rw [List.drop_succ_cons, tcells_cons, ih, show (n + 1) * 3 = (tmCells k).length + n * 3 by show _ = 3 + n * 3; omega, List.drop_length_add_append]
/-- Timers in a row of one's own. -/
abbrev OwnT (w : World) (B : Nat) (v : Value) (l : List Tm) : Prop := w.ownsRow B 45 3 v l.length (tcells l)
abbrev zeroTmV : Value := .agg #[.int .i64 0, .int .i64 0, .int .i64 0]
theorem info_tm : (Try.prog.info? 45).map (fun i => (i.zero, i.size, i.bytes)) = some (some zeroTmV, 3, 24) := by kernel_rfl
theorem elem_tm : Program.elem Try.prog 37 = 45 := by kernel_rfl
theorem under_tm : Try.prog.underlying 37 = some (.slice (Program.elem Try.prog 37)) := by
  rw [elem_tm]
  exact Try.underlying37
theorem addr_add (g o j : Nat) : (⟨g, o, none⟩ : Addr).add j = ⟨g, o + j, none⟩ := by
  unfold Addr.add
  split
  · rename_i h
    subst h
    simp
  · rfl
theorem own_same {w w' : World} {B : Nat} {e : TypeId} {size n : Nat} {v : Value} {xs : List Value} (h : w.ownsRow B e size v n xs) (hs : ∀ q, v.ownBlock = some q → w'.heap[q]? = w.heap[q]?) : w'.ownsRow B e size v n xs := by
  refine ⟨h.1, ?_⟩
  rcases h.2 with h1 | ⟨g, cap, cur, hv, h1, h2, h3⟩
  · exact .inl h1
  · exact .inr ⟨g, cap, cur, hv, h1, (hs g (by rw [hv]; rfl)).trans h2, h3⟩
theorem own_under {w w' : World} {B : Nat} {e : TypeId} {size n : Nat} {v : Value} {xs : List Value} (h : w.ownsRow B e size v n xs) (hb : Below w.heap.size w w') : w'.ownsRow B e size v n xs := own_same h (fun q hq => hb.block q (h.lt q hq).2)
theorem rowT {w : World} {B : Nat} {v : Value} {l : List Tm} (h : OwnT w B v l) : ∃ a c, v = .slice a l.length c ∧ l.length ≤ c ∧ c ≤ maxLen ∧ (a = none ∨ ∃ g, a = some ⟨g, 0, none⟩) ∧ ∀ j u, (tcells l)[j]? = some u → ∃ g, a = some ⟨g, 0, none⟩ ∧ g < w.heap.size ∧ w.cell? ⟨g, j, none⟩ = some u := by
  rcases h.2 with ⟨hv, h0⟩ | ⟨g, cap, cur, hv, _, hg, hn, hm, _⟩
  · refine ⟨none, 0, by rw [hv, h0], by omega, by unfold maxLen; omega, .inl rfl, fun j u hj => ?_⟩
    have := (List.getElem?_eq_some_iff.1 hj).1
    rw [tcells_length, h0] at this
    omega
  · refine ⟨some ⟨g, 0, none⟩, cap, hv, hn, hm, .inr ⟨g, rfl⟩, fun j u hj => ⟨g, rfl, (Array.getElem?_eq_some_iff.1 hg).1, ?_⟩⟩
    have := h.cells (g := g) (by rw [hv]; rfl) j u hj
    rw [addr_add, Nat.zero_add] at this
    exact this
theorem row_tm {w : World} {B : Nat} {v : Value} {l : List Tm} (h : OwnT w B v l) : ∃ a c, v = .slice a l.length c ∧ l.length ≤ c ∧ ∀ (i : Nat) (p : Tm), l[i]? = some p → ∃ g, a = some ⟨g, 0, none⟩ ∧ g < w.heap.size ∧
    w.cell? ⟨g, i * 3, none⟩ = some (.int .i64 p.due) ∧ w.cell? ⟨g, i * 3 + 1, none⟩ = some (.int .i64 p.id) ∧ w.cell? ⟨g, i * 3 + 2, none⟩ = some (.int .i64 p.what) := by
  obtain ⟨a, c, hv, hc, _, _, hat⟩ := rowT h
  refine ⟨a, c, hv, hc, fun i p hi => ?_⟩
  obtain ⟨g, rfl, hg, c0⟩ := hat _ _ (tcells_at l i p hi 0 _ rfl)
  have hh : ∀ j u, (tmCells p)[j]? = some u → w.cell? ⟨g, i * 3 + j, none⟩ = some u := fun j u hj => by
    obtain ⟨g2, e, _, c1⟩ := hat _ _ (tcells_at l i p hi j u hj)
    cases e
    exact c1
  exact ⟨g, rfl, hg, c0, hh 1 _ rfl, hh 2 _ rfl⟩
theorem app_tm (w : World) (B : Nat) (v : Value) (xs ys : List Tm) (h : OwnT w B v xs) (xa : Option Addr) (m xc : Nat) (hm : m = ys.length) (hsrc : ∀ j u, (tcells ys)[j]? = some u → ∃ ad, xa = some ad ∧ w.cell? (ad.add j) = some u) (hl : xs.length + ys.length ≤ 1099511627776) (hB : B ≤ w.heap.size) :
    ∃ v' w', (Builtin.append_ #[37, 37] 37 #[v, .slice xa m xc]).run Try.prog w = .ok v' w' ∧ OwnT w' B v' (xs ++ ys) ∧ Below B w w' := by
  obtain ⟨i0, hi, hz0, hz1, hz2⟩ := info_parts info_tm
  subst hm
  obtain ⟨v', w', hr, h2, h3⟩ := app_any (P := Try.prog) (t := 37) (e := 45) (i := i0) w B 37 zeroTmV 3 24 Try.underlying37 hi hz0 hz1 hz2 rfl (by omega) v xs.length (tcells xs) h xa ys.length xc (tcells ys) (tcells_length ys) hsrc (tcells_one ys) (by unfold maxLen; omega) (by omega) hB
  rw [← tcells_append, ← List.length_append] at h2
  exact ⟨v', w', hr, h2, (Below.refl B w).grown h3 hB (fun k hk => (h.lt k hk).1)⟩
theorem src_take_tm {w : World} {B : Nat} {a : Option Addr} {c : Nat} {l : List Tm} (h : OwnT w B (.slice a l.length c) l) (n : Nat) :
    ∀ j u, (tcells (l.take n))[j]? = some u → ∃ ad, a = some ad ∧ w.cell? (ad.add j) = some u := fun j u hj => by
  obtain ⟨a', c', e, _, _, _, hs⟩ := rowT h
  injection e with e1 _ _
  subst e1
  rw [take_tm] at hj
  have hlt := (List.getElem?_eq_some_iff.1 hj).1
  rw [List.length_take] at hlt
  rw [List.getElem?_take_of_lt (by omega)] at hj
  obtain ⟨g, rfl, _, hc⟩ := hs j u hj
  exact ⟨_, rfl, by rw [addr_add, Nat.zero_add]; exact hc⟩
theorem src_drop_tm {w : World} {B : Nat} {a : Option Addr} {c : Nat} {l : List Tm} (h : OwnT w B (.slice a l.length c) l) (n : Nat) :
    ∀ j u, (tcells (l.drop n))[j]? = some u → ∃ ad, atAddr a 3 n c = some ad ∧ w.cell? (ad.add j) = some u := fun j u hj => by
  obtain ⟨a', c', e, hlc, _, _, hs⟩ := rowT h
  injection e with e1 _ e3
  subst e1; subst e3
  have hn : n < l.length := by
    have hlt := (List.getElem?_eq_some_iff.1 hj).1
    rw [tcells_length, List.length_drop] at hlt
    omega
  rw [drop_tm, List.getElem?_drop] at hj
  obtain ⟨g, rfl, _, hc⟩ := hs _ u hj
  refine ⟨⟨g, n * 3, none⟩, ?_, ?_⟩
  · unfold atAddr
    rw [if_neg (by omega)]
    simp [addr_add]
  · rw [addr_add]
    exact hc
/-! The document's queue -/
/-- At block Q; lv: its timers. -/
structure RQ (w : World) (Q : Nat) (q : QS) (lv : Value) : Prop where
  head : w.heap[Q]? = some (.cells #[lv, .int .i64 q.most, .int .i64 q.next] 60 (0, 0))
  row : OwnT w 0 lv q.l
  apart : lv.ownBlock ≠ some Q
theorem RQ.lt {w : World} {Q : Nat} {q : QS} {lv : Value} (h : RQ w Q q lv) : Q < w.heap.size := (Array.getElem?_eq_some_iff.1 h.head).1
theorem RQ.under {w w' : World} {Q : Nat} {q : QS} {lv : Value} (h : RQ w Q q lv) (hb : Below w.heap.size w w') : RQ w' Q q lv := ⟨(hb.block Q h.lt).trans h.head, own_under h.row hb, h.apart⟩
theorem RQ.c {w : World} {Q : Nat} {q : QS} {lv : Value} (h : RQ w Q q lv) : w.cell? ⟨Q, 0, none⟩ = some lv ∧ w.cell? ⟨Q, 1, none⟩ = some (.int .i64 q.most) ∧ w.cell? ⟨Q, 2, none⟩ = some (.int .i64 q.next) :=
  ⟨cell_block (j := 0) h.head rfl, cell_block (j := 1) h.head rfl, cell_block (j := 2) h.head rfl⟩
theorem tm_at {w : World} {g : Nat} {t : Tm} {T : TypeId} (h : w.heap[g]? = some (.cells t.cells T (0, 0))) : w.cell? ⟨g, 0, none⟩ = some (.int .i64 t.due) ∧ w.cell? ⟨g, 1, none⟩ = some (.int .i64 t.id) ∧ w.cell? ⟨g, 2, none⟩ = some (.int .i64 t.what) :=
  ⟨cell_block (j := 0) h rfl, cell_block (j := 1) h rfl, cell_block (j := 2) h rfl⟩
set_option maxRecDepth 100000 in
set_option maxHeartbeats 2000000 in
theorem ahead_any (x y : Tm) (w : World) :
    Calls Try.prog 40 #[tV x, tV y] w fun e w' => e = .returned (.bool (decide (ahead x y))) ∧ Below w.heap.size w w' := by
  obtain ⟨Z, hZ⟩ : ∃ Z, (w.alloc (.cells #[.int .i64 x.due, .int .i64 x.id, .int .i64 x.what] 45)).alloc (.cells #[.int .i64 y.due, .int .i64 y.id, .int .i64 y.what] 45) = Z := ⟨_, rfl⟩
  have hY : (w.alloc (.cells x.cells 45)).alloc (.cells y.cells 45) = Z := hZ
  have b0 : Z.heap[w.heap.size]? = some (.cells x.cells 45 (0, 0)) := by
    rw [← hY, heap_alloc_old _ _ (by simp)]
    exact heap_alloc_new w _
  have b1 : Z.heap[w.heap.size + 1]? = some (.cells y.cells 45 (0, 0)) := by
    rw [← hY]
    have := heap_alloc_new (w.alloc (.cells x.cells 45)) (.cells y.cells 45)
    simpa using this
  have HB : Hid (Below w.heap.size w Z) := Lib.hid (by rw [← hY]; exact ((Below.refl _ w).alloc (Nat.le_refl _) _).alloc (by simp) _)
  obtain ⟨x0, x1, x2⟩ := tm_at b0
  obtain ⟨y0, y1, y2⟩ := tm_at b1
  obtain ⟨r, hr⟩ : ∃ r, decide (ahead x y) = r := ⟨_, rfl⟩
  rw [hr]
  have HA : Hid (r = decide (x.due < y.due ∨ (x.due = y.due ∧ x.id < y.id))) := Lib.hid (by rw [← hr]; rfl)
  clear b0 b1 hY hr
  rcases Int.lt_trichotomy x.due y.due with h | h | h
  · obtain rfl : r = true := by rw [HA.out]; exact decide_eq_true (.inl h)
    go_enter Try.func40, Try.ntmps40
    go_wp2_with fail
    go_ret
    exact ⟨rfl, HB.out⟩
  · have h1 : ¬ x.due < y.due := by omega
    have h2 : (x.due == y.due) = true := by simpa using h
    have HD := Lib.hid h
    clear h
    by_cases h3 : x.id < y.id
    · obtain rfl : r = true := by rw [HA.out]; exact decide_eq_true (.inr ⟨HD.out, h3⟩)
      go_enter Try.func40, Try.ntmps40
      go_wp2_with fail
      go_ret
      exact ⟨rfl, HB.out⟩
    · obtain rfl : r = false := by rw [HA.out]; exact decide_eq_false (by omega)
      go_enter Try.func40, Try.ntmps40
      go_wp2_with fail
      go_ret
      exact ⟨rfl, HB.out⟩
  · obtain rfl : r = false := by rw [HA.out]; exact decide_eq_false (by omega)
    have h1 : ¬ x.due < y.due := by omega
    have h2 : (x.due == y.due) = false := by simp; omega
    go_enter Try.func40, Try.ntmps40
    go_wp2_with fail
    go_ret
    exact ⟨rfl, HB.out⟩
set_option maxRecDepth 100000 in
set_option maxHeartbeats 2000000 in
theorem find_any {Q : Nat} {q : QS} {lv : Value} (id : Int) (w : World) (h : RQ w Q q lv) (hl : q.l.length ≤ 1048576) :
    Calls Try.prog 31 #[ptr Q, .int .i64 id] w fun e w' => e = .returned (.int .i64 (findV q.l id)) ∧ w = w' := by
  obtain ⟨c0, _, _⟩ := h.c
  obtain ⟨a, c, rfl, hlc, hat⟩ := row_tm h.row
  obtain ⟨n, hn⟩ : ∃ n, q.l.length = n := ⟨_, rfl⟩
  have hn2 : (n : Int) ≤ 1048576 := by omega
  have HN := Lib.hid hn; have HAT := Lib.hid hat
  rw [hn] at c0 hlc
  clear h hat hn hl
  go_enter Try.func31, Try.ntmps31
  go_wp2_with fail
  go_loopw [5] (fun t wr => ∃ i : Nat, t = .int .i64 i ∧ i ≤ n ∧ w = wr ∧ Hid (∀ j x, j < i → q.l[j]? = some x → x.id ≠ id)) (fun t _ => n - (RowKit.intOf t).toNat)
  case atStart => exact ⟨0, rfl, by omega, rfl, Lib.hid (fun j x hj => by omega)⟩
  case round =>
    obtain ⟨i, rfl, hi, rfl, HI⟩ := hrel
    by_cases hlt : i < n
    · obtain ⟨p, hp⟩ : ∃ p, q.l[i]? = some p := ⟨q.l[i]'(by have := HN.out; omega), List.getElem?_eq_getElem (by have := HN.out; omega)⟩
      obtain ⟨g, rfl, hg, _, k1, _⟩ := HAT.out i p hp
      have hi0 : (0 : Int) ≤ (i : Int) := by omega
      have hlt2 : (i : Int) < (n : Int) := by omega
      by_cases hid : p.id = id
      · have HE : Hid (findV q.l id = (i : Int)) := Lib.hid (by
          have h1 := findK_of id q.l i (by have := HN.out; omega) HI.out (fun x hx => by rw [hp] at hx; cases hx; exact hid)
          unfold findV
          rw [h1, if_pos (by have := HN.out; omega)])
        rw [hid] at k1
        have hee : (id == id) = true := by simp
        clear hp hid
        go_wp2_with fail
        go_ret
        exact ⟨ret_i64 HE.out.symm, rfl⟩
      · have hne : (p.id == id) = false := by simpa using hid
        have HI2 : Hid (∀ j x, j < i + 1 → q.l[j]? = some x → x.id ≠ id) := Lib.hid (fun j x hj hx => by
          rcases Nat.lt_or_ge j i with h1 | h1
          · exact HI.out j x h1 hx
          · obtain rfl : j = i := by omega
            rw [hp] at hx
            cases hx
            exact hid)
        clear hp
        go_wp2_with fail
        go_roundw
        case rel => exact ⟨i + 1, by go_num, by omega, (by first | rfl | trivial), HI2⟩
        case measure => simp [RowKit.intOf]; omega
    · obtain rfl : i = n := by omega
      have HE : Hid (findV q.l id = -1) := Lib.hid (by
        have h1 := findK_of id q.l i (by have := HN.out; omega) HI.out (fun x hx => by have := (List.getElem?_eq_some_iff.1 hx).1; have := HN.out; omega)
        unfold findV
        rw [h1, if_neg (by have := HN.out; omega)])
      go_wp2_with fail
      go_ret
      exact ⟨ret_i64 HE.out.symm, rfl⟩
end Go.Proofs.Ytfbdkafpfminlaa.Heap
