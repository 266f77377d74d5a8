/- What a disk with files does, said without a program. -/
import Derived.WalkKit
import Derived.Test.YtflkglnmenbmaaaCommon
namespace Go.Proofs.Ytflkglnmenbmaaa.Disk

structure DF where
  name : ByteArray
  bytes : ByteArray
  sure : Nat
structure DS where
  fs : List DF
  room : Nat
  ops : Nat
  last : Nat
  half : Bool
  dead : Bool

def less (a b : ByteArray) : Bool := Op.bytesLess a.toList b.toList
def okByte (b : Nat) : Prop := b = 46 ∨ (97 ≤ b ∧ b ≤ 122)
instance (b : Nat) : Decidable (okByte b) := inferInstanceAs (Decidable (_ ∨ _))
def isName (s : ByteArray) : Prop := (∀ b ∈ s.data.toList, okByte b.toNat) ∧ 1 ≤ s.size ∧ s.size ≤ 12
instance (s : ByteArray) : Decidable (isName s) := inferInstanceAs (Decidable (_ ∧ _))
def pos : List DF → ByteArray → Option Nat
  | [], _ => none
  | f :: l, s => if f.name = s then some 0 else (pos l s).map (· + 1)
def look : List DF → ByteArray → Option DF
  | [], _ => none
  | f :: l, s => if f.name = s then some f else look l s
def modF (g : DF → DF) : List DF → ByteArray → List DF
  | [], _ => []
  | f :: l, s => if f.name = s then g f :: l else f :: modF g l s
def takeF (l : List DF) (s : ByteArray) : List DF := l.filter fun f => decide (f.name ≠ s)
def ins (f : DF) : List DF → List DF
  | [] => [f]
  | g :: l => if less f.name g.name then f :: g :: l else g :: ins f l
def putF (l : List DF) (f : DF) : List DF := ins f (takeF l f.name)
def usedF : List DF → Nat
  | [] => 0
  | f :: l => f.bytes.size + usedF l
def used (st : DS) : Nat := if st.dead then 0 else usedF st.fs
def namesF (l : List DF) : List ByteArray := l.map DF.name
def names (st : DS) : List ByteArray := if st.dead then [] else namesF st.fs
/-- One operation more: is it done, what is answered, and what the disk is behind it. -/
def opD (st : DS) : Bool := if st.last = 0 then true else if 1 < st.last then true else st.half
def opE (st : DS) : Int := if st.last = 0 then 0 else if 1 < st.last then 0 else 14
def opS (st : DS) : DS := if st.last = 0 then { st with ops := st.ops + 1 } else if 1 < st.last then { st with ops := st.ops + 1, last := st.last - 1 } else { st with ops := st.ops + 1, last := 0, dead := true }
def fileOf (st : DS) (s : ByteArray) : DF := (look st.fs s).getD ⟨s, ⟨#[]⟩, 0⟩
def put (st : DS) (f : DF) : DS := { st with fs := putF st.fs f }
def grown (f : DF) (b : ByteArray) : DF := { f with bytes := f.bytes ++ b }
def appE (st : DS) (s b : ByteArray) : Int :=
  if st.dead then 14 else if ¬ isName s then 1 else if st.room < usedF st.fs + b.size then 4 else opE st
def appS (st : DS) (s b : ByteArray) : DS :=
  if st.dead then st else if ¬ isName s then st else if st.room < usedF st.fs + b.size then st else opS (put st (grown (fileOf st s) b))
def syncE (st : DS) (s : ByteArray) : Int := if st.dead then 14 else if (look st.fs s).isNone then 3 else opE st
def surely (f : DF) : DF := { f with sure := f.bytes.size }
def syncS (st : DS) (s : ByteArray) : DS :=
  if st.dead then st else if (look st.fs s).isNone then st else if opD st then { opS st with fs := modF surely st.fs s } else opS st
def shorter (n : Nat) (f : DF) : DF := { f with bytes := f.bytes.extract 0 n, sure := min f.sure n }
def badCut (st : DS) (s : ByteArray) (n : Int) : Prop := n < 0 ∨ ((fileOf st s).bytes.size : Int) < n
instance (st : DS) (s : ByteArray) (n : Int) : Decidable (badCut st s n) := inferInstanceAs (Decidable (_ ∨ _))
def cutE (st : DS) (s : ByteArray) (n : Int) : Int := if st.dead then 14 else if (look st.fs s).isNone then 3 else if badCut st s n then 1 else opE st
def cutS (st : DS) (s : ByteArray) (n : Int) : DS :=
  if st.dead then st else if (look st.fs s).isNone then st else if badCut st s n then st else if opD st then { opS st with fs := modF (shorter n.toNat) st.fs s } else opS st
def renE (st : DS) (a b : ByteArray) : Int := if st.dead then 14 else if ¬ isName b then 1 else if (look st.fs a).isNone then 3 else opE st
def called (b : ByteArray) (f : DF) : DF := { f with name := b }
def renS (st : DS) (a b : ByteArray) : DS :=
  if st.dead then st else if ¬ isName b then st else if (look st.fs a).isNone then st else
    if opD st then { opS st with fs := putF (takeF st.fs a) (called b (fileOf st a)) } else opS st
def readS (st : DS) (s : ByteArray) : ByteArray := if st.dead then ⟨#[]⟩ else (fileOf st s).bytes
def readE (st : DS) (s : ByteArray) : Int := if st.dead then 14 else if (look st.fs s).isNone then 3 else 0
def fuseS (st : DS) (n : Int) (half : Bool) : DS := { st with last := (max 0 n).toNat, half := half }
/-- How many bytes of a file are left behind a crash. -/
def kept (f : DF) (k : Option Int) : Nat := f.sure + match k with
  | none => 0
  | some x => (x % 4611686018427387904).toNat % (f.bytes.size - f.sure + 1)
def piece (f : DF) (n : Nat) : List DF := if 0 < n then [⟨f.name, f.bytes.extract 0 n, n⟩] else []
def crashF (keep : Nat → Option Int) : Nat → List DF → List DF
  | _, [] => []
  | i, f :: l => piece f (kept f (keep i)) ++ crashF keep (i + 1) l
def crashS (st : DS) (keep : Nat → Option Int) : DS := { st with fs := crashF keep 0 st.fs, dead := false, last := 0 }
def newS (room : Nat) : DS := ⟨[], room, 0, 0, false, false⟩

theorem pos_some {l : List DF} {s : ByteArray} : ∀ {k : Nat}, pos l s = some k → ∃ f, l[k]? = some f ∧ f.name = s ∧ look l s = some f ∧ ∀ g, modF g l s = l.set k (g f) := by
  induction l with
  | nil => intro k h; cases h
  | cons a l ih =>
    intro k h
    unfold pos at h
    split at h
    · rename_i ha
      obtain rfl : 0 = k := Option.some.inj h
      exact ⟨a, rfl, ha, by unfold look; rw [if_pos ha], fun g => by unfold modF; rw [if_pos ha]; rfl⟩
    · rename_i ha
      obtain ⟨j, hj, rfl⟩ := Option.map_eq_some_iff.1 h
      obtain ⟨f, h1, h2, h3, h4⟩ := ih hj
      exact ⟨f, by simpa using h1, h2, by unfold look; rw [if_neg ha]; exact h3, fun g => by unfold modF; rw [if_neg ha, h4 g]; rfl⟩
theorem pos_none {l : List DF} {s : ByteArray} (h : pos l s = none) : look l s = none ∧ ∀ f ∈ l, f.name ≠ s := by
  induction l with
  | nil => exact ⟨rfl, by simp⟩
  | cons a l ih =>
    unfold pos at h
    split at h
    · cases h
    · rename_i ha
      obtain ⟨h1, h2⟩ := ih (Option.map_eq_none_iff.1 h)
      refine ⟨by unfold look; rw [if_neg ha]; exact h1, fun f hf => ?_⟩
      rcases List.mem_cons.1 hf with rfl | hf
      · exact ha
      · exact h2 f hf
theorem pos_at {l : List DF} {s : ByteArray} : ∀ {k : Nat} {f : DF}, l[k]? = some f → f.name = s → (∀ (j : Nat), j < k → ∀ g : DF, l[j]? = some g → g.name ≠ s) → pos l s = some k := by
  induction l with
  | nil => intro k f h; simp at h
  | cons a l ih =>
    intro k f h hn hb
    cases k with
    | zero =>
      have : a = f := by simpa using h
      subst this
      unfold pos
      rw [if_pos hn]
    | succ k =>
      have ha : a.name ≠ s := hb 0 (by omega) a rfl
      have := ih (k := k) (f := f) (by simpa using h) hn (fun j hj g hg => hb (j + 1) (by omega) g (by simpa using hg))
      unfold pos
      rw [if_neg ha, this]
      rfl
theorem pos_out {l : List DF} {s : ByteArray} (h : ∀ (j : Nat) (g : DF), l[j]? = some g → g.name ≠ s) : pos l s = none := by
  induction l with
  | nil => rfl
  | cons a l ih =>
    unfold pos
    rw [if_neg (h 0 a rfl), ih (fun j g hg => h (j + 1) g (by simpa using hg))]
    rfl
/-- What there is to know of a disk's numbers. -/
structure Good (st : DS) : Prop where
  room : st.room ≤ 16777216
  fit : usedF st.fs ≤ st.room
  sure : ∀ f ∈ st.fs, f.sure ≤ f.bytes.size
  few : st.fs.length ≤ st.ops + 1
  last : st.last ≤ 9223372036854775807
theorem used_mem {l : List DF} {f : DF} (h : f ∈ l) : f.bytes.size ≤ usedF l := by
  induction l with
  | nil => cases h
  | cons a l ih =>
    unfold usedF
    rcases List.mem_cons.1 h with rfl | h
    · omega
    · have := ih h; omega
def sizeAt (l : List DF) (s : ByteArray) : Nat := match look l s with | some f => f.bytes.size | none => 0
theorem sizeAt_some {l : List DF} {s : ByteArray} {f : DF} (h : look l s = some f) : sizeAt l s = f.bytes.size := by unfold sizeAt; rw [h]
theorem sizeAt_none {l : List DF} {s : ByteArray} (h : look l s = none) : sizeAt l s = 0 := by unfold sizeAt; rw [h]
theorem used_take (l : List DF) (s : ByteArray) : usedF (takeF l s) + sizeAt l s ≤ usedF l := by
  induction l with
  | nil => simp [takeF, sizeAt, look, usedF]
  | cons a l ih =>
    by_cases ha : a.name = s
    · have h1 : takeF (a :: l) s = takeF l s := by simp [takeF, ha]
      have h2 : look (a :: l) s = some a := by unfold look; rw [if_pos ha]
      rw [h1, sizeAt_some h2]
      simp only [usedF]
      have : usedF (takeF l s) ≤ usedF l := by omega
      omega
    · have h1 : takeF (a :: l) s = a :: takeF l s := by simp [takeF, ha]
      have h2 : sizeAt (a :: l) s = sizeAt l s := by
        have h3 : look (a :: l) s = look l s := by show (if _ then _ else _) = _; rw [if_neg ha]
        unfold sizeAt
        rw [h3]
      rw [h1, h2]
      simp only [usedF]
      omega
theorem used_ins (f : DF) : ∀ l : List DF, usedF (ins f l) = f.bytes.size + usedF l
  | [] => rfl
  | g :: l => by
    unfold ins
    split
    · rfl
    · simp only [usedF]
      rw [used_ins f l]
      omega
theorem mem_ins {f x : DF} : ∀ {l : List DF}, x ∈ ins f l → x = f ∨ x ∈ l
  | [], h => by simpa [ins] using h
  | g :: l, h => by
    unfold ins at h
    split at h
    · simpa using h
    · rcases List.mem_cons.1 h with rfl | h
      · right; simp
      · rcases mem_ins h with h | h
        · exact .inl h
        · right; simp [h]
theorem ins_length (f : DF) : ∀ l : List DF, (ins f l).length = l.length + 1
  | [] => rfl
  | g :: l => by
    unfold ins
    split
    · rfl
    · simp only [List.length_cons]
      rw [ins_length f l]
theorem look_mem {l : List DF} {s : ByteArray} {f : DF} (h : look l s = some f) : f ∈ l ∧ f.name = s := by
  induction l with
  | nil => cases h
  | cons a l ih =>
    unfold look at h
    split at h
    · rename_i ha
      obtain rfl := Option.some.inj h
      exact ⟨by simp, ha⟩
    · obtain ⟨h1, h2⟩ := ih h
      exact ⟨by simp [h1], h2⟩
end Go.Proofs.Ytflkglnmenbmaaa.Disk
