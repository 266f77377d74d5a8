/- The document's Load, New, Same. -/
import Derived.Test.YtfbdkafpfminlaaHeapE
namespace Go.Proofs.Ytfbdkafpfminlaa.Heap
open Go.RowKit Go.Lib

def okT (next : Int) (acc : List Tm) (t : Tm) : Prop := 0 ≤ t.due ∧ 1 ≤ t.id ∧ t.id < next ∧ ¬ findK t.id acc < acc.length
instance (next : Int) (acc : List Tm) (t : Tm) : Decidable (okT next acc t) := by unfold okT; infer_instance
def loadL (next : Int) : List Tm → List Tm → Option (List Tm)
  | acc, [] => some acc
  | acc, t :: r => if okT next acc t then loadL next (put acc t) r else none
theorem loadL_yes {next : Int} {acc : List Tm} {t : Tm} {r : List Tm} (h : okT next acc t) : loadL next acc (t :: r) = loadL next (put acc t) r := by simp [loadL, h]
theorem loadL_no {next : Int} {acc : List Tm} {t : Tm} {r : List Tm} (h : ¬ okT next acc t) : loadL next acc (t :: r) = none := by simp [loadL, h]
def badL (m : Int) (n : Nat) (next : Int) : Prop := m < 1 ∨ 1024 < m ∨ m < n ∨ next < 1 ∨ mt < next
/-- Timers that lie somewhere. -/
def Tms (w : World) (a : Option Addr) (l : List Tm) : Prop := ∀ (i : Nat) (t : Tm), l[i]? = some t → ∃ g off, a = some ⟨g, off, none⟩ ∧ g < w.heap.size ∧ w.cell? ⟨g, off + i * 3, none⟩ = some (.int .i64 t.due) ∧ w.cell? ⟨g, off + i * 3 + 1, none⟩ = some (.int .i64 t.id) ∧ w.cell? ⟨g, off + i * 3 + 2, none⟩ = some (.int .i64 t.what)
theorem Tms.under {w w' : World} {a : Option Addr} {l : List Tm} (h : Tms w a l) (hb : Below w.heap.size w w') : Tms w' a l := fun i t hi => by
  obtain ⟨g, off, e, hg, k0, k1, k2⟩ := h i t hi
  exact ⟨g, off, e, Nat.lt_of_lt_of_le hg hb.size, ((bcell hb).1 g _ hg).trans k0, ((bcell hb).1 g _ hg).trans k1, ((bcell hb).1 g _ hg).trans k2⟩
theorem tms_nil (w : World) (a : Option Addr) : Tms w a [] := fun i t hi => by simp at hi
/-- A queue of the document's, of the call's own. -/
def DF (w W : World) (Q : Nat) (q : QS) : Prop := ∃ G, DQ W Q G q ∧ Below w.heap.size w W ∧ ∀ k, G k → w.heap.size ≤ k
theorem DF.under {w W W' : World} {Q : Nat} {q : QS} (h : DF w W Q q) (hb : Below W.heap.size W W') : DF w W' Q q := by
  obtain ⟨G, h1, h2, h3⟩ := h
  exact ⟨G, h1.under hb, below_then h2 hb, h3⟩
theorem DF.below {w W : World} {Q : Nat} {q : QS} (h : DF w W Q q) : Below w.heap.size w W := by
  obtain ⟨G, h1, h2, h3⟩ := h
  exact h2
set_option maxRecDepth 100000 in
set_option maxHeartbeats 2000000 in
theorem dload_bad (m next : Int) (a : Option Addr) (n c : Nat) (w : World) (h : badL m n next) :
    Calls Try.prog 13 #[.int .i64 m, .slice a n c, .int .i64 next] w fun e w' => e = .returned (.tuple #[.pointer none, .int .i64 1]) ∧ w = w' := by
  unfold badL mt at h
  by_cases h1 : m < 1
  · clear h
    go_enter Try.func13, Try.ntmps13
    go_wp2_with fail
    go_ret2
    exact ⟨rfl, rfl⟩
  by_cases h2 : 1024 < m
  · clear h
    go_enter Try.func13, Try.ntmps13
    go_wp2_with fail
    go_ret2
    exact ⟨rfl, rfl⟩
  by_cases h3 : m < (n : Int)
  · clear h
    go_enter Try.func13, Try.ntmps13
    go_wp2_with fail
    go_ret2
    exact ⟨rfl, rfl⟩
  by_cases h4 : next < 1
  · clear h
    go_enter Try.func13, Try.ntmps13
    go_wp2_with fail
    go_ret2
    exact ⟨rfl, rfl⟩
  have h5 : 1099511627776 < next := by omega
  clear h
  go_enter Try.func13, Try.ntmps13
  go_wp2_with fail
  go_ret2
  exact ⟨rfl, rfl⟩
set_option maxRecDepth 100000 in
set_option maxHeartbeats 4000000 in
theorem dload (m next : Int) (a : Option Addr) (n c : Nat) (l : List Tm) (w : World) (hb : ¬ badL m n next) (hl : l.length = n) (ht : Tms w a l) :
    Calls Try.prog 13 #[.int .i64 m, .slice a n c, .int .i64 next] w fun e w' => (∃ acc Q, loadL next [] l = some acc ∧ e = .returned (.tuple #[ptr Q, .int .i64 0]) ∧ DF w w' Q ⟨acc, m, next⟩) ∨ (loadL next [] l = none ∧ e = .returned (.tuple #[.pointer none, .int .i64 1]) ∧ Below w.heap.size w w') := by
  unfold badL mt at hb
  have h1 : ¬ m < 1 := by omega
  have h2 : ¬ 1024 < m := by omega
  have h3 : ¬ m < (n : Int) := by omega
  have h4 : ¬ next < 1 := by omega
  have h5 : ¬ 1099511627776 < next := by omega
  have hn : n ≤ 1024 := by omega
  obtain ⟨Q, hQ⟩ : ∃ Q, w.heap.size = Q := ⟨_, rfl⟩
  obtain ⟨X, hX⟩ : ∃ X, w.alloc (.cells #[.slice none 0 0, .int .i64 m, .int .i64 next] 60) = X := ⟨_, rfl⟩
  have hbX : Below w.heap.size w X := by rw [← hX]; exact (Below.refl _ w).alloc (Nat.le_refl _) _
  have hqX : DF w X Q ⟨[], m, next⟩ := by
    refine ⟨fun k => k = Q ∨ (Value.slice none 0 0).ownBlock = some k, ⟨.slice none 0 0, ⟨?_, World.ownsRow_nil _ _ _ _, fun e => (by cases e)⟩, fun _ => Iff.rfl⟩, hbX, fun k hk => ?_⟩
    · rw [← hX, ← hQ]; exact heap_alloc_new w _
    · rcases hk with rfl | e
      · rw [hQ]; exact Nat.le_refl _
      · cases e
  have HT : Hid (∀ W i, Below w.heap.size w W → i < n → ∃ g off t, a = some ⟨g, off, none⟩ ∧ l[i]? = some t ∧ W.cell? ⟨g, off + i * 3, none⟩ = some (.int .i64 t.due) ∧ W.cell? ⟨g, off + i * 3 + 1, none⟩ = some (.int .i64 t.id) ∧ W.cell? ⟨g, off + i * 3 + 2, none⟩ = some (.int .i64 t.what)) := Lib.hid (fun W i hW hi => by
    obtain ⟨g, off, e, _, k0, k1, k2⟩ := (ht.under hW) i _ (nthT_at (by omega : i < l.length))
    exact ⟨g, off, _, e, nthT_at (by omega), k0, k1, k2⟩)
  have HF : Hid (∀ W acc id, acc.length ≤ n → DF w W Q ⟨acc, m, next⟩ → Calls Try.prog 31 #[ptr Q, .int .i64 id] W fun e w' => e = .returned (.int .i64 (findV acc id)) ∧ W = w') := Lib.hid (fun W acc id ha h => by
    obtain ⟨G, h, _⟩ := h
    exact dfind id W h (by show acc.length ≤ 1048576; omega))
  have HP : Hid (∀ W acc t, acc.length ≤ n → DF w W Q ⟨acc, m, next⟩ → Calls Try.prog 32 #[ptr Q, tV t] W fun e w' => e = .returned (.tuple #[]) ∧ Hid (DF w w' Q ⟨put acc t, m, next⟩)) := Lib.hid (fun W acc t ha h => by
    obtain ⟨G, h, hw, hG⟩ := h
    refine (dput t W h (by show acc.length ≤ 4096; omega)).mono ?_
    rintro e w' ⟨rfl, G', h1, s1⟩
    obtain ⟨h6, h7⟩ := s1.fresh hw hG
    exact ⟨rfl, Lib.hid ⟨G', h1, h6, h7⟩⟩)
  have HX := Lib.hid hqX
  have HL := Lib.hid hl
  have hn1 : (n : Int) ≤ 1048576 := by omega
  have H0 : Hid (loadL next [] l = loadL next [] (l.drop 0)) := Lib.hid rfl
  clear hb hqX hbX hl ht hn
  go_enter Try.func13, Try.ntmps13
  go_wp2_with fail
  clear hX hQ
  go_loopw [9] (fun s wr => ∃ (i : Nat) (acc : List Tm), s = .int .i64 i ∧ i ≤ n ∧ Hid (acc.length = i) ∧ Hid (loadL next [] l = loadL next acc (l.drop i)) ∧ Hid (DF w wr Q ⟨acc, m, next⟩)) (fun s _ => n - (RowKit.intOf s).toNat)
  case atStart => exact ⟨0, [], rfl, by omega, Lib.hid rfl, H0, HX⟩
  case round =>
    clear H0 HX
    obtain ⟨i, acc, rfl, hi, HA, HR, HD⟩ := hrel
    have hi0 : (0 : Int) ≤ (i : Int) := by omega
    by_cases hlt : i < n
    · have hlt2 : (i : Int) < (n : Int) := by omega
      obtain ⟨g, off, t, rfl, hti, k0, k1, k2⟩ := HT.out wr i HD.out.below hlt
      have hdrop : l.drop i = t :: l.drop (i + 1) := by
        obtain ⟨hh, e⟩ := List.getElem?_eq_some_iff.1 hti
        rw [List.drop_eq_getElem_cons hh, e]
      have HNO : Hid (¬ okT next acc t → loadL next [] l = none) := Lib.hid (fun h => by rw [HR.out, hdrop, loadL_no h])
      have HYES : Hid (okT next acc t → loadL next [] l = loadL next (put acc t) (l.drop (i + 1))) := Lib.hid (fun h => by rw [HR.out, hdrop, loadL_yes h])
      clear hti hdrop
      by_cases c1 : t.due < 0
      · have HE := Lib.hid (HNO.out (fun h => by have := h.1; omega))
        go_wp2_with fail
        go_ret2
        exact .inr ⟨HE.out, rfl, HD.out.below⟩
      by_cases c2 : t.id < 1
      · have HE := Lib.hid (HNO.out (fun h => by have := h.2.1; omega))
        go_wp2_with fail
        go_ret2
        exact .inr ⟨HE.out, rfl, HD.out.below⟩
      by_cases c3 : next ≤ t.id
      · have HE := Lib.hid (HNO.out (fun h => by have := h.2.2.1; omega))
        go_wp2_with fail
        go_ret2
        exact .inr ⟨HE.out, rfl, HD.out.below⟩
      have HFF := Lib.hid (HF.out wr acc t.id (by rw [HA.out]; exact hi) HD.out)
      by_cases c4 : findK t.id acc < acc.length
      · have HE := Lib.hid (HNO.out (fun h => h.2.2.2 c4))
        have hv : findV acc t.id = (findK t.id acc : Nat) := by unfold findV; rw [if_pos c4]
        obtain ⟨k, hk⟩ : ∃ k, findK t.id acc = k := ⟨_, rfl⟩
        rw [hv, hk] at HFF
        have hk0 : (0 : Int) ≤ (k : Int) := by omega
        clear c4 hv hk
        go_wp2_with (go_at_call 31; refine HFF.out.mono ?_; rintro e w' ⟨rfl, rfl⟩)
        go_ret2
        exact .inr ⟨HE.out, rfl, HD.out.below⟩
      have hv : findV acc t.id = -1 := by unfold findV; rw [if_neg c4]
      rw [hv] at HFF
      have HY := Lib.hid (HYES.out ⟨by omega, by omega, by omega, c4⟩)
      have HPP := Lib.hid (HP.out wr acc t (by rw [HA.out]; exact hi) HD.out)
      have HA2 : Hid ((put acc t).length = i + 1) := Lib.hid (by rw [length_put, HA.out])
      clear c4 hv
      go_wp2_with (first | (go_at_call 31; refine HFF.out.mono ?_; rintro e w' ⟨rfl, rfl⟩) | (go_at_call 32; refine HPP.out.mono ?_; rintro e w2 ⟨rfl, H2⟩))
      go_roundw
      case rel => exact ⟨i + 1, _, by go_num, by omega, HA2, HY, H2⟩
      case measure => simp [RowKit.intOf]; omega
    · obtain rfl : i = n := by omega
      have HE : Hid (loadL next [] l = some acc) := Lib.hid (by rw [HR.out, List.drop_of_length_le (by rw [HL.out]; exact Nat.le_refl _)]; rfl)
      go_wp2_with fail
      go_ret2
      exact .inl ⟨acc, Q, HE.out, rfl, HD.out⟩
set_option maxRecDepth 100000 in
theorem dnew_bad (m : Int) (w : World) (h : m < 1 ∨ 1024 < m) :
    Calls Try.prog 9 #[.int .i64 m] w fun e w' => e = .returned (.tuple #[.pointer none, .int .i64 1]) ∧ w = w' := by
  have HL := Lib.hid (dload_bad m 1 none 0 0 w (by unfold badL; omega))
  clear h
  go_enter Try.func9, Try.ntmps9
  go_wp2_with fail
  refine HL.out.mono ?_
  rintro e w' ⟨rfl, rfl⟩
  go_wp2_with fail
  go_ret2
  exact ⟨rfl, rfl⟩
set_option maxRecDepth 100000 in
theorem dnew (m : Int) (w : World) (h : 1 ≤ m ∧ m ≤ 1024) :
    Calls Try.prog 9 #[.int .i64 m] w fun e w' => ∃ Q, e = .returned (.tuple #[ptr Q, .int .i64 0]) ∧ DF w w' Q ⟨[], m, 1⟩ := by
  have HL : Hid (Calls Try.prog 13 #[.int .i64 m, .slice none 0 0, .int .i64 1] w fun e w' => ∃ Q, e = .returned (.tuple #[ptr Q, .int .i64 0]) ∧ Hid (DF w w' Q ⟨[], m, 1⟩)) := Lib.hid (by
    refine (dload m 1 none 0 0 [] w (by unfold badL mt; omega) rfl (tms_nil _ _)).mono ?_
    rintro e w' (⟨acc, Q, h1, rfl, h2⟩ | ⟨h1, _⟩)
    · cases h1
      exact ⟨Q, rfl, Lib.hid h2⟩
    · cases h1)
  clear h
  go_enter Try.func9, Try.ntmps9
  go_wp2_with fail
  refine HL.out.mono ?_
  rintro e w' ⟨Q, rfl, H⟩
  go_wp2_with fail
  go_ret2
  exact ⟨Q, rfl, H.out⟩
/-- Two rows that hold the same timers. -/
def Row3 (w : World) (v : Value) (l : List Tm) : Prop := ∃ a c, v = .slice a l.length c ∧ ∀ (i : Nat) (t : Tm), l[i]? = some t → ∃ g, a = some ⟨g, 0, none⟩ ∧ g < w.heap.size ∧ w.cell? ⟨g, i * 3, none⟩ = some (.int .i64 t.due) ∧ w.cell? ⟨g, i * 3 + 1, none⟩ = some (.int .i64 t.id) ∧ w.cell? ⟨g, i * 3 + 2, none⟩ = some (.int .i64 t.what)
theorem row3_own {w : World} {B : Nat} {v : Value} {l : List Tm} (h : OwnT w B v l) : Row3 w v l := by
  obtain ⟨a, c, hv, _, hat⟩ := row_tm h
  exact ⟨a, c, hv, hat⟩
set_option maxRecDepth 100000 in
set_option maxHeartbeats 2000000 in
theorem same_yes (v1 v2 : Value) (l : List Tm) (w : World) (h1 : Row3 w v1 l) (h2 : Row3 w v2 l) (hl : l.length ≤ 1048576) :
    Calls Try.prog 28 #[v1, v2] w fun e w' => e = .returned (.bool true) ∧ Below w.heap.size w w' := by
  obtain ⟨a1, c1, rfl, g1⟩ := h1
  obtain ⟨a2, c2, rfl, g2⟩ := h2
  obtain ⟨n, hn⟩ : ∃ n, l.length = n := ⟨_, rfl⟩
  have H1 := Lib.hid g1; have H2 := Lib.hid g2
  rw [hn]
  have hn1 : (n : Int) ≤ 1048576 := by omega
  have HN := Lib.hid hn
  have hee : ((n : Int) == (n : Int)) = true := by simp
  clear g1 g2 hn hl
  go_enter Try.func28, Try.ntmps28
  go_wp2_with fail
  go_loopw [5] (fun s wr => ∃ i : Nat, s = .int .i64 i ∧ i ≤ n ∧ Hid (Below w.heap.size w wr)) (fun s _ => n - (RowKit.intOf s).toNat)
  case atStart => exact ⟨0, rfl, by omega, Lib.hid (Below.refl _ _)⟩
  case round =>
    obtain ⟨i, rfl, hi, HB⟩ := hrel
    have hi0 : (0 : Int) ≤ (i : Int) := by omega
    by_cases hlt : i < n
    · have hlt2 : (i : Int) < (n : Int) := by omega
      have hti : l[i]? = some (nthT l i) := nthT_at (by rw [HN.out]; exact hlt)
      obtain ⟨t, ht⟩ : ∃ t, nthT l i = t := ⟨_, rfl⟩
      rw [ht] at hti
      obtain ⟨g, rfl, hg, k0, k1, k2⟩ := H1.out i t hti
      obtain ⟨g', rfl, hg', j0, j1, j2⟩ := H2.out i t hti
      have q0 := ((bcell HB.out).1 g _ hg).trans k0; have q1 := ((bcell HB.out).1 g _ hg).trans k1; have q2 := ((bcell HB.out).1 g _ hg).trans k2
      have r0 := ((bcell HB.out).1 g' _ hg').trans j0; have r1 := ((bcell HB.out).1 g' _ hg').trans j1; have r2 := ((bcell HB.out).1 g' _ hg').trans j2
      clear k0 k1 k2 j0 j1 j2 hti ht
      go_wp2_with fail
      go_quiet (fail)
      go_wp2_with fail
      go_roundw
      case rel => exact ⟨i + 1, by go_num, by omega, Lib.hid (below_drewN HB.out _)⟩
      case measure => simp [RowKit.intOf]; omega
    · obtain rfl : i = n := by omega
      go_wp2_with fail
      go_ret
      exact ⟨rfl, HB.out⟩
end Go.Proofs.Ytfbdkafpfminlaa.Heap
