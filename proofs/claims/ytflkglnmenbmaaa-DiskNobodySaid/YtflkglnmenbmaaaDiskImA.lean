/- The program's disk in memory: a map of files, each with a row of bytes of its own. -/
import Derived.Test.YtflkglnmenbmaaaDiskN
import Derived.Test.YtflkglnmenbmaaaMaps
import Derived.Test.YtflkglnmenbmaaaBytes
import Derived.Test.YtflkglnmenbmaaaSame
import Derived.Lib.AppendStr
import Derived.Laws.AppendOwn
namespace Go.Proofs.Ytflkglnmenbmaaa.Disk.Im
open Go.RowKit Go.Lib

def fileV (V : ByteArray → Value) (f : DF) : Value := .agg #[V f.name, .int .i64 (f.sure : Int)]
abbrev zeroFile : Value := .agg #[.slice none 0 0, .int .i64 0]
def mapM (V : ByteArray → Value) (fs : List DF) (s : ByteArray) : Option Value := (look fs s).map (fileV V)
def upd (V : ByteArray → Value) (s : ByteArray) (v : Value) : ByteArray → Value := fun x => if x = s then v else V x
def QM (Q Mb : Nat) (k : Nat) : Prop := k = Q ∨ k = Mb
def FS (Q Mb : Nat) (V : ByteArray → Value) (fs : List DF) (k : Nat) : Prop := k = Q ∨ k = Mb ∨ ∃ f ∈ fs, (V f.name).ownBlock = some k
abbrev diskCells (Mb : Nat) (free : Int) (ops : Nat) (fz : Int) (half dead : Bool) : Array Value := #[.map (some Mb), .int .i64 free, .int .i64 (ops : Int), .int .i64 fz, .bool half, .bool dead]
/-- The disk lies at block Q, its map at Mb; fz is its fuse; V is where each file's bytes are. -/
structure PDX (w : World) (Q Mb : Nat) (fz : Int) (V : ByteArray → Value) (st : DS) : Prop where
  block : w.heap[Q]? = some (.cells (diskCells Mb ((st.room : Int) - (usedF st.fs : Int)) st.ops fz st.half st.dead) 57 (0, 0))
  map : MapIs Try.prog 9 w Mb st.fs.length (mapM V st.fs)
  rows : ∀ f ∈ st.fs, w.ownsRow 0 5 1 (V f.name) f.bytes.size (strCells f.bytes)
  apart : ∀ f ∈ st.fs, ∀ g ∈ st.fs, f.name ≠ g.name → ∀ k, (V f.name).ownBlock = some k → (V g.name).ownBlock ≠ some k
  sorted : Sorted st.fs
  fuse : (max 0 fz).toNat = st.last
  fuseIn : -9223372036854775808 ≤ fz ∧ fz ≤ 9223372036854775807
  names : ∀ f ∈ st.fs, f.name.size ≤ 12
def PD (w : World) (Q : Nat) (F : Nat → Prop) (st : DS) : Prop := ∃ Mb fz V, PDX w Q Mb fz V st ∧ F = FS Q Mb V st.fs
theorem own_block {w : World} {base : Nat} {e : TypeId} {size n : Nat} {v : Value} {xs : List Value} (h : w.ownsRow base e size v n xs) {k : Nat} (hk : v.ownBlock = some k) : ∃ cur, w.heap[k]? = some (.cells cur e (0, 0)) := by
  rcases h.2 with ⟨rfl, _⟩ | ⟨g, cap, cur, rfl, _, hg, _⟩
  · cases hk
  · obtain rfl : g = k := by simpa [Value.ownBlock] using hk
    exact ⟨cur, hg⟩
theorem own_moved {w w' : World} {base : Nat} {e : TypeId} {size n : Nat} {v : Value} {xs : List Value} (h : w.ownsRow base e size v n xs) (hk : ∀ k, v.ownBlock = some k → w'.heap[k]? = w.heap[k]?) : w'.ownsRow base e size v n xs := by
  refine ⟨h.1, ?_⟩
  rcases h.2 with h1 | ⟨g, cap, cur, hv, h1, h2, h3⟩
  · exact .inl h1
  · exact .inr ⟨g, cap, cur, hv, h1, (hk g (by rw [hv]; rfl)).trans h2, h3⟩
theorem own_slice {w : World} {base : Nat} {e : TypeId} {size n : Nat} {v : Value} {xs : List Value} (h : w.ownsRow base e size v n xs) : ∃ a c, v = .slice a n c := by
  rcases h.2 with ⟨rfl, rfl⟩ | ⟨g, cap, cur, rfl, _⟩
  · exact ⟨_, _, rfl⟩
  · exact ⟨_, _, rfl⟩
section
variable {w w' : World} {Q Mb : Nat} {fz : Int} {V : ByteArray → Value} {st : DS}
theorem PDX.ltQ (h : PDX w Q Mb fz V st) : Q < w.heap.size := (Array.getElem?_eq_some_iff.1 h.block).1
theorem PDX.ltM (h : PDX w Q Mb fz V st) : Mb < w.heap.size := h.map.lt
theorem PDX.neQM (h : PDX w Q Mb fz V st) : Q ≠ Mb := by
  rintro rfl
  obtain ⟨es, clock, hb⟩ := h.map.block
  have := h.block.symm.trans hb
  simp at this
theorem PDX.own_ne (h : PDX w Q Mb fz V st) {v : Value} {base n : Nat} {xs : List Value} (hr : w.ownsRow base 5 1 v n xs) : v.ownBlock ≠ some Q ∧ v.ownBlock ≠ some Mb := by
  refine ⟨fun e => ?_, fun e => ?_⟩
  · obtain ⟨cur, hc⟩ := own_block hr e
    have := h.block.symm.trans hc
    simp at this
  · obtain ⟨cur, hc⟩ := own_block hr e
    obtain ⟨es, clock, hb⟩ := h.map.block
    have := hb.symm.trans hc
    simp at this
theorem PDX.ltF (h : PDX w Q Mb fz V st) : ∀ k, FS Q Mb V st.fs k → k < w.heap.size := by
  rintro k (rfl | rfl | ⟨f, hf, hk⟩)
  · exact h.ltQ
  · exact h.ltM
  · exact ((h.rows f hf).lt k hk).2
theorem PDX.moved (h : PDX w Q Mb fz V st) (hk : ∀ k, FS Q Mb V st.fs k → w'.heap[k]? = w.heap[k]?) : PDX w' Q Mb fz V st :=
  ⟨(hk Q (.inl rfl)).trans h.block, h.map.of_block (hk Mb (.inr (.inl rfl))), fun f hf => own_moved (h.rows f hf) (fun k hk' => hk k (.inr (.inr ⟨f, hf, hk'⟩))), h.apart, h.sorted, h.fuse, h.fuseIn, h.names⟩
theorem PDX.below (h : PDX w Q Mb fz V st) (hb : Below w.heap.size w w') : PDX w' Q Mb fz V st := h.moved (fun k hk => hb.block k (h.ltF k hk))
/-- The disk's own block alone has turned. -/
theorem PDX.turned (h : PDX w Q Mb fz V st) (hg : w.grownBy w' (some Q)) {st' : DS} {fz' : Int} (hfs : st'.fs = st.fs) (hb : w'.heap[Q]? = some (.cells (diskCells Mb ((st'.room : Int) - (usedF st.fs : Int)) st'.ops fz' st'.half st'.dead) 57 (0, 0)))
    (h1 : (max 0 fz').toNat = st'.last) (h2 : -9223372036854775808 ≤ fz' ∧ fz' ≤ 9223372036854775807) : PDX w' Q Mb fz' V st' := by
  have hne := h.neQM
  refine ⟨by rw [hfs]; exact hb, ?_, fun f hf => ?_, fun f hf g hg' => ?_, by rw [hfs]; exact h.sorted, h1, h2, fun f hf => ?_⟩
  · rw [hfs]
    exact h.map.of_block (hg.block Mb h.ltM (fun e => hne (Option.some.inj e).symm))
  · rw [hfs] at hf
    have hr := h.rows f hf
    exact own_moved hr (fun k hk => hg.block k (hr.lt k hk).2 (fun e => (h.own_ne hr).1 (by rw [hk, Option.some.inj e])))
  · rw [hfs] at hf hg'
    exact h.apart f hf g hg'
  · rw [hfs] at hf
    exact h.names f hf
theorem PDX.q (h : PDX w Q Mb fz V st) : w.cell? ⟨Q, 0, none⟩ = some (.map (some Mb)) ∧ w.cell? ⟨Q, 1, none⟩ = some (.int .i64 ((st.room : Int) - (usedF st.fs : Int))) ∧ w.cell? ⟨Q, 2, none⟩ = some (.int .i64 (st.ops : Int)) ∧
    w.cell? ⟨Q, 3, none⟩ = some (.int .i64 fz) ∧ w.cell? ⟨Q, 4, none⟩ = some (.bool st.half) ∧ w.cell? ⟨Q, 5, none⟩ = some (.bool st.dead) :=
  ⟨cell_block (j := 0) h.block rfl, cell_block (j := 1) h.block rfl, cell_block (j := 2) h.block rfl, cell_block (j := 3) h.block rfl, cell_block (j := 4) h.block rfl, cell_block (j := 5) h.block rfl⟩
theorem PDX.free (h : PDX w Q Mb fz V st) (j : Nat) : w.frozen? ⟨Q, j, none⟩ = false := free_block j h.block
end
theorem step_qm {w w' : World} {Q Mb : Nat} {V : ByteArray → Value} {fs fs' : List DF} (h : StepF w w' (QM Q Mb) (QM Q Mb)) (hF : ∀ k, FS Q Mb V fs' k → FS Q Mb V fs k) : StepF w w' (FS Q Mb V fs) (FS Q Mb V fs') :=
  ⟨h.os, h.tape, h.output, h.size, fun k hk hn => h.block k hk (fun hq => hn (hq.elim .inl (fun e => .inr (.inl e)))), fun k hk => .inl (hF k hk)⟩
theorem step_q {w w' : World} {Q Mb : Nat} (h : w.grownBy w' (some Q)) : StepF w w' (QM Q Mb) (QM Q Mb) :=
  ⟨h.os, h.tape, h.output, h.size, fun k hk hn => h.block k hk (fun e => hn (.inl (Option.some.inj e))), fun _ hk => .inl hk⟩
theorem step_m {w w' : World} {Q Mb : Nat} (h : w.grownBy w' (some Mb)) : StepF w w' (QM Q Mb) (QM Q Mb) :=
  ⟨h.os, h.tape, h.output, h.size, fun k hk hn => h.block k hk (fun e => hn (.inr (Option.some.inj e))), fun _ hk => .inl hk⟩
/-- What was looked up. -/
theorem PDX.got {w : World} {Q Mb : Nat} {fz : Int} {V : ByteArray → Value} {st : DS} (h : PDX w Q Mb fz V st) (s : ByteArray) :
    ∃ a c u, (mapM V st.fs s).getD zeroFile = .agg #[.slice a (sizeAt st.fs s) c, .int .i64 u] ∧ (∀ f, look st.fs s = some f → V s = .slice a (sizeAt st.fs s) c ∧ u = (f.sure : Int)) ∧ (look st.fs s = none → a = none ∧ c = 0 ∧ u = 0) := by
  cases hl : look st.fs s with
  | none => exact ⟨none, 0, 0, by simp [mapM, hl, sizeAt_none hl], (fun f hf => by cases hf), fun _ => ⟨rfl, rfl, rfl⟩⟩
  | some f =>
    obtain ⟨hm, hn⟩ := look_mem hl
    obtain ⟨a, c, hv⟩ := own_slice (h.rows f hm)
    refine ⟨a, c, f.sure, ?_, fun g hg => ?_, fun h0 => by cases h0⟩
    · simp [mapM, hl, fileV, hv, sizeAt_some hl]
    · obtain rfl := Option.some.inj hg
      rw [← hn, hv, hn, sizeAt_some hl]
      exact ⟨rfl, rfl⟩
theorem info_file : (Try.prog.info? 63).map (fun i => (i.zero, i.size)) = some (some zeroFile, 2) := by kernel_rfl
theorem zero_file (w : World) : (zeroValue 63).run Try.prog w = .ok zeroFile w := by
  obtain ⟨i, hi, hz⟩ := Option.map_eq_some_iff.1 info_file
  simp only [Prod.mk.injEq] at hz
  simp [zeroValue, typeInfo, hi, hz.1]
/-! lists of files, rising -/
theorem sorted_ne {f : DF} {l : List DF} (h : Sorted (f :: l)) : ∀ g ∈ l, g.name ≠ f.name := fun g hg e => by
  have := (List.pairwise_cons.1 h).1 g hg
  rw [e, less_irrefl] at this
  cases this
theorem take_same {l : List DF} {s : ByteArray} (h : ∀ g ∈ l, g.name ≠ s) : takeF l s = l := List.filter_eq_self.2 (fun g hg => by simpa using h g hg)
theorem look_take (l : List DF) (s : ByteArray) : look (takeF l s) s = none := look_none takeF_ne
theorem used_take_is {s : ByteArray} : ∀ {l : List DF}, Sorted l → usedF (takeF l s) + sizeAt l s = usedF l
  | [], _ => by simp [takeF, sizeAt, look, usedF]
  | a :: l, h => by
    by_cases ha : a.name = s
    · have h1 : takeF (a :: l) s = l := by
        rw [show takeF (a :: l) s = takeF l s by simp [takeF, ha]]
        exact take_same (fun g hg => ha ▸ sorted_ne h g hg)
      have h2 : look (a :: l) s = some a := by unfold look; rw [if_pos ha]
      rw [h1, sizeAt_some h2]
      simp only [usedF]
      omega
    · have h1 : takeF (a :: l) s = a :: takeF l s := by simp [takeF, ha]
      have h2 : sizeAt (a :: l) s = sizeAt l s := by
        have h3 : look (a :: l) s = look l s := by show (if _ then _ else _) = _; rw [if_neg ha]
        unfold sizeAt
        rw [h3]
      have := used_take_is (s := s) (List.pairwise_cons.1 h).2
      rw [h1, h2]
      simp only [usedF]
      omega
theorem length_take_is {s : ByteArray} : ∀ {l : List DF}, Sorted l → (takeF l s).length = l.length - if (look l s).isSome then 1 else 0
  | [], _ => by simp [takeF]
  | a :: l, h => by
    by_cases ha : a.name = s
    · have h1 : takeF (a :: l) s = l := by
        rw [show takeF (a :: l) s = takeF l s by simp [takeF, ha]]
        exact take_same (fun g hg => ha ▸ sorted_ne h g hg)
      have h2 : look (a :: l) s = some a := by unfold look; rw [if_pos ha]
      rw [h1, h2]
      simp
    · have h1 : takeF (a :: l) s = a :: takeF l s := by simp [takeF, ha]
      have h3 : look (a :: l) s = look l s := by show (if _ then _ else _) = _; rw [if_neg ha]
      have := length_take_is (s := s) (List.pairwise_cons.1 h).2
      have h4 : (look l s).isSome → 0 < l.length := fun h' => by
        obtain ⟨f, hf⟩ := Option.isSome_iff_exists.1 h'
        exact List.length_pos_of_mem (look_mem hf).1
      rw [h1, h3, List.length_cons, this, List.length_cons]
      by_cases h5 : (look l s).isSome = true
      · have := h4 h5
        simp [h5]
        omega
      · simp [h5]
theorem look_none_all : ∀ {l : List DF} {s : ByteArray}, look l s = none → ∀ f ∈ l, f.name ≠ s
  | [], _, _ => by intro f hf; cases hf
  | a :: l, s, h => by
    intro f hf
    unfold look at h
    split at h
    · cases h
    · rename_i ha
      rcases List.mem_cons.1 hf with rfl | hf
      · exact ha
      · exact look_none_all h f hf
theorem sorted_unique : ∀ {l : List DF}, Sorted l → ∀ {f g : DF}, f ∈ l → g ∈ l → f.name = g.name → f = g
  | [], _, f, g, hf, _, _ => by cases hf
  | a :: l, h, f, g, hf, hg, hn => by
    rcases List.mem_cons.1 hf with hfa | hf
    · rcases List.mem_cons.1 hg with hga | hg
      · rw [hfa, hga]
      · exact absurd (by rw [← hn, hfa]) (sorted_ne h g hg)
    · rcases List.mem_cons.1 hg with hga | hg
      · exact absurd (by rw [hn, hga]) (sorted_ne h f hf)
      · exact sorted_unique (List.pairwise_cons.1 h).2 hf hg hn
theorem mapM_take (V : ByteArray → Value) (l : List DF) (s x : ByteArray) : (if x = s then none else mapM V l x) = mapM V (takeF l s) x := by
  unfold mapM
  by_cases h : x = s
  · subst h
    rw [if_pos rfl, look_take]
    rfl
  · rw [if_neg h, look_take_ne (Ne.symm h)]
theorem mapM_put (V : ByteArray → Value) (l : List DF) (s x b : ByteArray) (n : Nat) (v : Value) : (if x = s then some (.agg #[v, .int .i64 (n : Int)]) else mapM V (takeF l s) x) = mapM (upd V s v) (putF l ⟨s, b, n⟩) x := by
  unfold mapM
  by_cases h : x = s
  · subst h
    rw [if_pos rfl, look_put l ⟨x, b, n⟩]
    simp [fileV, upd]
  · rw [if_neg h, look_put_ne (f := ⟨s, b, n⟩) (Ne.symm h), look_take_ne (Ne.symm h)]
    cases hl : look l x with
    | none => rfl
    | some f =>
      have := (look_mem hl).2
      simp [fileV, upd, this, h]
end Go.Proofs.Ytflkglnmenbmaaa.Disk.Im
