/- What a record's bytes are, where records stand in a text, and what a text that is cut tells. Nothing here speaks of a program. -/
import Derived.WalkKit
import Derived.Test.YtajmdcbnejkfgaaCommon
import Derived.Test.YtajmdcbnejkfgaaCrcMath
namespace Go.Proofs.Ytajmdcbnejkfgaa.Frame

abbrev more := Crc.more
def byte (n k : Nat) : UInt8 := UInt8.ofNat (n / 256 ^ k)
def four (n : Nat) : List UInt8 := [byte n 3, byte n 2, byte n 1, byte n 0]
def headL (r : ByteArray) : List UInt8 := four r.size ++ four (more 0 r)
def recB (r : ByteArray) : ByteArray := ⟨(headL r).toArray⟩ ++ r
def num (l : List UInt8) : Nat := l.foldl (fun n b => n * 256 + b.toNat) 0
def fits (n : Nat) : Prop := 1 ≤ n ∧ n ≤ 4096
instance (n : Nat) : Decidable (fits n) := inferInstanceAs (Decidable (_ ∧ _))

theorem more_lt (r : ByteArray) : more 0 r < 4294967296 :=
  Crc.xor_lt (by unfold Crc.ones; omega) (Crc.run_lt _ (Crc.xor_lt (by unfold Crc.ones; omega) (by omega)))
theorem four_length (n : Nat) : (four n).length = 4 := rfl
theorem head_length (r : ByteArray) : (headL r).length = 8 := rfl
theorem rec_size (r : ByteArray) : (recB r).size = 8 + r.size := by
  unfold recB
  rw [ByteArray.size_append]
  rfl
theorem rec_list (r : ByteArray) : (recB r).data.toList = headL r ++ r.data.toList := by
  unfold recB
  rw [ByteArray.data_append, Array.toList_append]
theorem byte_nat (n k : Nat) : (byte n k).toNat = n / 256 ^ k % 256 := by simp [byte]
theorem num_four (n : Nat) (h : n < 4294967296) : num (four n) = n := by
  simp only [num, four, List.foldl_cons, List.foldl_nil, byte_nat]
  omega
theorem num_snoc (l : List UInt8) (b : UInt8) : num (l ++ [b]) = num l * 256 + b.toNat := by
  unfold num
  rw [List.foldl_append]
  rfl
theorem num_lt (n : Nat) : ∀ l : List UInt8, l.length = n → num l < 256 ^ n := by
  induction n with
  | zero =>
    intro l h
    obtain rfl := List.length_eq_zero_iff.1 h
    simp [num]
  | succ n ih =>
    intro l h
    rcases List.eq_nil_or_concat l with rfl | ⟨l', b, e⟩
    · simp at h
    · rw [e, List.concat_eq_append, num_snoc, Nat.pow_succ]
      have h1 := ih l' (by rw [e] at h; simpa using h)
      have := b.toNat_lt
      omega
theorem ext_list {a b : ByteArray} (h : a.data.toList = b.data.toList) : a = b := by
  apply ByteArray.ext
  exact Array.toList_inj.1 h
theorem from_list (s : ByteArray) (a : Nat) : (s.extract a s.size).data.toList = s.data.toList.drop a := by
  rw [ByteArray.data_extract, Array.toList_extract]
  show (s.data.toList.drop a).take (s.size - a) = _
  exact List.take_of_length_le (by rw [List.length_drop, size_list]; exact Nat.le_refl _)
theorem mid_list (s : ByteArray) (a b : Nat) : (s.extract a b).data.toList = (s.data.toList.drop a).take (b - a) := by
  rw [ByteArray.data_extract, Array.toList_extract]

/-- The record that a text begins with. -/
def first (s : ByteArray) : Option ByteArray :=
  if 8 ≤ s.size ∧ fits (num (s.data.toList.take 4)) ∧ 8 + num (s.data.toList.take 4) ≤ s.size ∧ headL (s.extract 8 (8 + num (s.data.toList.take 4))) = s.data.toList.take 8 then
    some (s.extract 8 (8 + num (s.data.toList.take 4))) else none
theorem first_mk (s : ByteArray) (n : Nat) (h8 : 8 ≤ s.size) (hn : num (s.data.toList.take 4) = n) (hf : fits n) (hs : 8 + n ≤ s.size) (hh : headL (s.extract 8 (8 + n)) = s.data.toList.take 8) : first s = some (s.extract 8 (8 + n)) := by
  subst hn
  exact if_pos ⟨h8, hf, hs, hh⟩
theorem first_small (s : ByteArray) (h : s.size < 8) : first s = none := if_neg (by rintro ⟨h8, _⟩; omega)
theorem first_unfit (s : ByteArray) (n : Nat) (hn : num (s.data.toList.take 4) = n) (hf : ¬ fits n) : first s = none := by
  subst hn
  exact if_neg (by rintro ⟨_, h, _⟩; exact hf h)
theorem first_long (s : ByteArray) (n : Nat) (hn : num (s.data.toList.take 4) = n) (hs : s.size < 8 + n) : first s = none := by
  subst hn
  exact if_neg (by rintro ⟨_, _, h, _⟩; omega)
theorem first_other (s : ByteArray) (n : Nat) (hn : num (s.data.toList.take 4) = n) (hh : headL (s.extract 8 (8 + n)) ≠ s.data.toList.take 8) : first s = none := by
  subst hn
  exact if_neg (by rintro ⟨_, _, _, h⟩; exact hh h)
theorem first_some {s r : ByteArray} (h : first s = some r) : fits r.size ∧ 8 + r.size ≤ s.size ∧ r = s.extract 8 (8 + r.size) ∧ s.data.toList.take 8 = headL r := by
  unfold first at h
  split at h
  · rename_i hc
    obtain ⟨h8, hf, hs, hh⟩ := hc
    obtain ⟨n, hn⟩ : ∃ n, num (s.data.toList.take 4) = n := ⟨_, rfl⟩
    rw [hn] at h hf hs hh
    have hr : s.extract 8 (8 + n) = r := Option.some.inj h
    have hz : r.size = n := by rw [← hr, ByteArray.size_extract]; omega
    rw [hz, hr]
    rw [hr] at hh
    exact ⟨hf, hs, rfl, hh.symm⟩
  · cases h
theorem rec_take (r : ByteArray) (x : ByteArray) : (recB r ++ x).data.toList.take 8 = headL r := by
  rw [ByteArray.data_append, Array.toList_append, rec_list, List.append_assoc, ← head_length r, List.take_left]
theorem first_rec (r x : ByteArray) (hf : fits r.size) : first (recB r ++ x) = some r := by
  have h8 := rec_take r x
  have h4 : (recB r ++ x).data.toList.take 4 = four r.size := by
    have : (recB r ++ x).data.toList.take 4 = ((recB r ++ x).data.toList.take 8).take 4 := by rw [List.take_take]; rfl
    rw [this, h8]
    rfl
  have hx : (recB r ++ x).extract 8 (8 + r.size) = r := by
    apply ext_list
    rw [mid_list, ByteArray.data_append, Array.toList_append, rec_list, List.append_assoc, ← head_length r, List.drop_left, head_length, show 8 + r.size - 8 = r.data.toList.length by rw [size_list]; omega, List.take_left]
  have hk : num ((recB r ++ x).data.toList.take 4) = r.size := by rw [h4]; exact num_four _ (by have := hf.2; omega)
  have hz : (recB r ++ x).size = 8 + r.size + x.size := by rw [ByteArray.size_append, rec_size]
  have h := first_mk (recB r ++ x) r.size (by omega) hk hf (by omega) (by rw [hx, h8])
  rw [hx] at h
  exact h
/-- A record that is cut is none, by its length alone. -/
theorem first_cut (r x : ByteArray) (m : Nat) (hf : fits r.size) (hm : m < 8 + r.size) : first ((recB r ++ x).extract 0 m) = none := by
  have hz : ((recB r ++ x).extract 0 m).size ≤ m := by rw [ByteArray.size_extract]; omega
  by_cases h8 : m < 8
  · exact first_small _ (by omega)
  · have hk : num (((recB r ++ x).extract 0 m).data.toList.take 4) = r.size := by
      rw [mid_list, List.drop_zero, List.take_take]
      have h4 : Nat.min 4 (m - 0) = 4 := by show min 4 _ = 4; omega
      have : (recB r ++ x).data.toList.take 4 = ((recB r ++ x).data.toList.take 8).take 4 := by rw [List.take_take]; rfl
      rw [show min 4 (m - 0) = 4 by omega, this, rec_take]
      exact num_four _ (by have := hf.2; omega)
    exact first_long _ r.size hk (by omega)
theorem rec_eq (s : ByteArray) (n : Nat) (h : 8 + n ≤ s.size) : recB (s.extract 8 (8 + n)) = s.extract 0 (8 + n) ↔ headL (s.extract 8 (8 + n)) = s.data.toList.take 8 := by
  have hl : (s.extract 0 (8 + n)).data.toList = s.data.toList.take 8 ++ (s.extract 8 (8 + n)).data.toList := by
    rw [mid_list, mid_list, List.drop_zero, show 8 + n - 8 = n by omega, show 8 + n - 0 = 8 + n by omega, List.take_add]
  have h8 : (s.data.toList.take 8).length = 8 := by rw [List.length_take, size_list]; omega
  constructor
  · intro e
    have this := congrArg (fun z : ByteArray => z.data.toList) e
    replace this : (recB (s.extract 8 (8 + n))).data.toList = (s.extract 0 (8 + n)).data.toList := this
    rw [rec_list, hl] at this
    exact (List.append_inj this (by rw [h8]; rfl)).1
  · intro e
    apply ext_list
    rw [rec_list, hl, e]

/-- These records stand one behind the other, from here to there. -/
def Reads (s : ByteArray) : Nat → List ByteArray → Nat → Prop
  | a, [], e => a = e
  | a, r :: l, e => first (s.extract a s.size) = some r ∧ Reads s (a + 8 + r.size) l e
theorem reads_snoc (s : ByteArray) (r : ByteArray) : ∀ (l : List ByteArray) (a b : Nat), Reads s a l b → first (s.extract b s.size) = some r → Reads s a (l ++ [r]) (b + 8 + r.size)
  | [], a, b, h, hr => by
    obtain rfl : a = b := h
    exact ⟨hr, rfl⟩
  | q :: l, a, b, h, hr => ⟨h.1, reads_snoc s r l _ b h.2 hr⟩
theorem reads_same (s : ByteArray) : ∀ (l l' : List ByteArray) (a e e' : Nat), Reads s a l e → first (s.extract e s.size) = none → Reads s a l' e' → first (s.extract e' s.size) = none → l = l' ∧ e = e'
  | [], [], a, e, e', h, _, h', _ => ⟨rfl, h.symm.trans h'⟩
  | [], r :: l', a, e, e', h, hn, h', _ => by
    obtain rfl : a = e := h
    rw [h'.1] at hn
    cases hn
  | r :: l, [], a, e, e', h, _, h', hn => by
    obtain rfl : a = e' := h'
    rw [h.1] at hn
    cases hn
  | r :: l, r' :: l', a, e, e', h, hn, h', hn' => by
    have : r = r' := Option.some.inj (h.1.symm.trans h'.1)
    subst this
    obtain ⟨h1, h2⟩ := reads_same s l l' _ e e' h.2 hn h'.2 hn'
    exact ⟨by rw [h1], h2⟩
theorem first_le {s r : ByteArray} {a : Nat} (h : first (s.extract a s.size) = some r) : a + 8 + r.size ≤ s.size ∧ fits r.size := by
  obtain ⟨hf, hs, _⟩ := first_some h
  rw [ByteArray.size_extract] at hs
  exact ⟨by omega, hf⟩

/-- All records' bytes. -/
def allB : List ByteArray → ByteArray
  | [] => ⟨#[]⟩
  | r :: l => recB r ++ allB l
theorem all_append : ∀ (l m : List ByteArray), allB (l ++ m) = allB l ++ allB m
  | [], m => (nil_append _).symm
  | r :: l, m => by
    show recB r ++ allB (l ++ m) = recB r ++ allB l ++ allB m
    rw [all_append l m, append_assoc]
theorem all_snoc (l : List ByteArray) (r : ByteArray) : allB (l ++ [r]) = allB l ++ recB r := by
  rw [all_append]
  show allB l ++ (recB r ++ ⟨#[]⟩) = _
  rw [append_nil]
theorem all_size_snoc (l : List ByteArray) (r : ByteArray) : (allB (l ++ [r])).size = (allB l).size + 8 + r.size := by
  rw [all_snoc, ByteArray.size_append, rec_size]
  omega
theorem reads_all (n : Nat) : ∀ (l : List ByteArray) (x : ByteArray), l.length = n → (∀ r ∈ l, fits r.size) → Reads (allB l ++ x) 0 l (allB l).size := by
  induction n with
  | zero =>
    intro l x hn _
    obtain rfl := List.length_eq_zero_iff.1 hn
    rfl
  | succ n ih =>
    intro l x hn hl
    obtain ⟨l', r, rfl⟩ : ∃ l' r, l = l' ++ [r] := by
      rcases List.eq_nil_or_concat l with rfl | ⟨l', r, h⟩
      · simp at hn
      · exact ⟨l', r, by rw [h]; simp⟩
    have hfit : fits r.size := hl r (by simp)
    have h1 := ih l' (recB r ++ x) (by simpa using hn) (fun q hq => hl q (by simp [hq]))
    rw [← append_assoc, ← all_snoc] at h1
    have h2 := reads_snoc (allB (l' ++ [r]) ++ x) r l' 0 _ h1 (by
      rw [all_snoc, append_assoc, cut_front]
      exact first_rec r x hfit)
    rw [all_size_snoc]
    exact h2
/-- What a text that is cut tells: l whole, and what comes behind them is none. -/
theorem reads_cut (l m : List ByteArray) (n : Nat) (hl : ∀ r ∈ l, fits r.size) (hm : ∀ r ∈ m, fits r.size) (h1 : (allB l).size ≤ n) (h2 : ∀ r m', m = r :: m' → n < (allB l).size + 8 + r.size) :
    Reads ((allB (l ++ m)).extract 0 n) 0 l (allB l).size ∧ first (((allB (l ++ m)).extract 0 n).extract (allB l).size ((allB (l ++ m)).extract 0 n).size) = none := by
  have hx : (allB (l ++ m)).extract 0 n = allB l ++ (allB m).extract 0 (n - (allB l).size) := by
    apply ext_list
    rw [all_append, mid_list, ByteArray.data_append, Array.toList_append, ByteArray.data_append, Array.toList_append, mid_list, List.drop_zero, List.drop_zero, List.take_append]
    rw [List.take_of_length_le (by rw [size_list]; omega), size_list]
    rfl
  rw [hx]
  refine ⟨reads_all _ l _ rfl hl, ?_⟩
  rw [cut_front]
  cases m with
  | nil => exact first_small _ (by rw [ByteArray.size_extract]; have : (allB []).size = 0 := rfl; omega)
  | cons r m' =>
    have := h2 r m' rfl
    exact first_cut r (allB m') _ (hm r (by simp)) (by omega)
def texts (T : Nat → ByteArray) (k : Nat) : List ByteArray := (List.range k).map T
theorem texts_succ (T : Nat → ByteArray) (k : Nat) : texts T (k + 1) = texts T k ++ [T k] := by
  unfold texts
  rw [List.range_succ, List.map_append]
  rfl
theorem texts_length (T : Nat → ByteArray) (k : Nat) : (texts T k).length = k := by simp [texts]
theorem texts_get (T : Nat → ByteArray) (k j : Nat) (h : j < k) : (texts T k)[j]? = some (T j) := by simp [texts, h]
theorem texts_mem {T : Nat → ByteArray} {k : Nat} {r : ByteArray} (h : r ∈ texts T k) : ∃ j, j < k ∧ r = T j := by
  obtain ⟨j, hj, e⟩ := List.mem_map.1 h
  exact ⟨j, by simpa using hj, e.symm⟩
theorem texts_take (T : Nat → ByteArray) (k n : Nat) (h : k ≤ n) : ∃ m, texts T n = texts T k ++ m ∧ (∀ r ∈ m, r ∈ texts T n) ∧ ∀ r m', m = r :: m' → k < n ∧ r = T k := by
  refine ⟨(texts T n).drop k, ?_, fun r hr => List.mem_of_mem_drop hr, ?_⟩
  · have h1 : (texts T n).take k = texts T k := by
      unfold texts
      rw [← List.map_take, List.take_range, Nat.min_eq_left h]
    rw [← h1, List.take_append_drop]
  · intro r m' e
    have h0 : ((texts T n).drop k)[0]? = some r := by rw [e]; rfl
    rw [List.getElem?_drop, Nat.add_zero] at h0
    have hk : k < n := by
      rcases Nat.lt_or_ge k n with h' | h'
      · exact h'
      · rw [List.getElem?_eq_none (by rw [texts_length]; exact h')] at h0
        cases h0
    rw [texts_get T n k hk] at h0
    exact ⟨hk, (Option.some.inj h0).symm⟩
/-- What All says of a list of texts: where it stops, or all bytes. -/
theorem all_le (T : Nat → ByteArray) (M : Nat) : ∀ k, (∀ j, j < k → (T j).size ≤ M) → (allB (texts T k)).size ≤ (8 + M) * k
  | 0, _ => by simp [texts, allB, ByteArray.size]
  | k + 1, h => by
    have h1 := all_le T M k (fun j hj => h j (by omega))
    have h2 := h k (by omega)
    rw [texts_succ, all_size_snoc, Nat.mul_succ]
    omega
end Go.Proofs.Ytajmdcbnejkfgaa.Frame
