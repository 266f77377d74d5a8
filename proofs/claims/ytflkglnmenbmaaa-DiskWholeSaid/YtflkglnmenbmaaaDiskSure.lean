/- What was sure is there behind any crash; a file that was written beside, made sure, and renamed, is whole. Nothing here speaks of a program. -/
import Derived.Test.YtflkglnmenbmaaaDiskOrd
namespace Go.Proofs.Ytflkglnmenbmaaa.Disk

theorem ext_bytes {a b : ByteArray} (h : a.data.toList = b.data.toList) : a = b := by
  apply ByteArray.ext
  exact Array.toList_inj.1 h
theorem opE_ok {st : DS} (h : st.last = 0) : opE st = 0 ∧ opD st = true ∧ opS st = { st with ops := st.ops + 1 } := by
  unfold opE opD opS
  rw [if_pos h, if_pos h, if_pos h]
  exact ⟨rfl, rfl, rfl⟩
theorem opE_more {st : DS} (h0 : st.last ≠ 0) (h : 1 < st.last) : opE st = 0 ∧ opD st = true ∧ opS st = { st with ops := st.ops + 1, last := st.last - 1 } := by
  unfold opE opD opS
  rw [if_neg h0, if_neg h0, if_neg h0, if_pos h, if_pos h, if_pos h]
  exact ⟨rfl, rfl, rfl⟩
theorem opE_last {st : DS} (h : st.last = 1) : opE st = 14 ∧ opD st = st.half ∧ opS st = { st with ops := st.ops + 1, last := 0, dead := true } := by
  unfold opE opD opS
  rw [if_neg (by omega), if_neg (by omega), if_neg (by omega), if_neg (by omega), if_neg (by omega), if_neg (by omega)]
  exact ⟨rfl, rfl, rfl⟩
theorem app_is {st : DS} {s b : ByteArray} (hd : st.dead = false) (hn : isName s) (hfit : usedF st.fs + b.size ≤ st.room) :
    appE st s b = opE (put st (grown (fileOf st s) b)) ∧ appS st s b = opS (put st (grown (fileOf st s) b)) := by
  unfold appE appS
  rw [hd, if_neg (by simp), if_neg (by simpa using hn), if_neg (by omega), if_neg (by simp), if_neg (by simpa using hn), if_neg (by omega)]
  exact ⟨rfl, rfl⟩
theorem sync_is {st : DS} {s : ByteArray} {f : DF} (hd : st.dead = false) (hl : look st.fs s = some f) :
    syncE st s = opE st ∧ syncS st s = if opD st then { opS st with fs := modF surely st.fs s } else opS st := by
  unfold syncE syncS
  rw [hd, hl]
  exact ⟨rfl, rfl⟩
theorem ren_is {st : DS} {a b : ByteArray} {f : DF} (hd : st.dead = false) (hn : isName b) (hl : look st.fs a = some f) :
    renE st a b = opE st ∧ renS st a b = if opD st then { opS st with fs := putF (takeF st.fs a) (called b f) } else opS st := by
  have hf : fileOf st a = f := by unfold fileOf; rw [hl]; rfl
  unfold renE renS
  rw [hd, hl, hf, if_neg (by simp), if_neg (by simpa using hn), if_neg (by simp), if_neg (by simp), if_neg (by simpa using hn), if_neg (by simp)]
  exact ⟨rfl, rfl⟩
theorem read_is {st : DS} {s : ByteArray} (hd : st.dead = false) : (∀ f, look st.fs s = some f → readE st s = 0 ∧ readS st s = f.bytes) ∧ (look st.fs s = none → readE st s = 3 ∧ readS st s = ⟨#[]⟩) := by
  unfold readE readS fileOf
  rw [hd]
  exact ⟨fun f h => by rw [h]; exact ⟨rfl, rfl⟩, fun h => by rw [h]; exact ⟨rfl, rfl⟩⟩

/-- What was sure is there: the end of the law. -/
theorem sure_end {st : DS} {m all : ByteArray} {n : Nat} (hs : Sorted st.fs) (hl : look st.fs m = some ⟨m, all, n⟩) (hn : n ≤ all.size) (keep : Nat → Option Int) :
    (readE (crashS st keep) m = 3 ∧ readS (crashS st keep) m = ⟨#[]⟩ ∧ n = 0) ∨ (∃ k, 0 < k ∧ n ≤ k ∧ k ≤ all.size ∧ readE (crashS st keep) m = 0 ∧ readS (crashS st keep) m = all.extract 0 k) := by
  obtain ⟨k, hk⟩ := look_crash (keep := keep) (i := 0) hs hl
  obtain ⟨r1, r2⟩ := read_is (st := crashS st keep) (s := m) rfl
  have hle : n ≤ kept ⟨m, all, n⟩ k := by unfold kept; exact Nat.le_add_right _ _
  have hle2 : kept ⟨m, all, n⟩ k ≤ all.size := by
    unfold kept
    cases k with
    | none => simpa using hn
    | some x =>
      have := Nat.mod_lt ((x % 4611686018427387904).toNat) (show 0 < all.size - n + 1 by omega)
      simp only
      omega
  by_cases h0 : 0 < kept ⟨m, all, n⟩ k
  · rw [if_pos h0] at hk
    obtain ⟨e1, e2⟩ := r1 _ hk
    exact .inr ⟨_, h0, hle, hle2, e1, e2⟩
  · rw [if_neg h0] at hk
    obtain ⟨e1, e2⟩ := r2 hk
    exact .inl ⟨e1, e2, by omega⟩
/-- What was sure is there: its beginning. -/
theorem sure_start {m sure more : ByteArray} (hm : isName m) (h1 : sure.size ≤ 200) (h2 : more.size ≤ 200) :
    appE (newS 65536) m sure = 0 ∧ syncE (appS (newS 65536) m sure) m = 0 ∧ appE (syncS (appS (newS 65536) m sure) m) m more = 0 ∧
    look (appS (syncS (appS (newS 65536) m sure) m) m more).fs m = some ⟨m, sure ++ more, sure.size⟩ ∧ Sorted (appS (syncS (appS (newS 65536) m sure) m) m more).fs ∧ (appS (syncS (appS (newS 65536) m sure) m) m more).ops = 3 ∧
    (appS (syncS (appS (newS 65536) m sure) m) m more).fs.length ≤ 3 := by
  obtain ⟨a1, a2⟩ := app_is (st := newS 65536) (s := m) (b := sure) rfl hm (by show 0 + sure.size ≤ 65536; omega)
  have hf0 : grown (fileOf (newS 65536) m) sure = ⟨m, sure, 0⟩ := by
    show (⟨m, ⟨#[]⟩ ++ sure, 0⟩ : DF) = _
    rw [nil_append]
  rw [hf0] at a1 a2
  have hp0 : put (newS 65536) ⟨m, sure, 0⟩ = ⟨[⟨m, sure, 0⟩], 65536, 0, 0, false, false⟩ := rfl
  rw [hp0] at a1 a2
  obtain ⟨o1, _, o3⟩ := opE_ok (st := ⟨[⟨m, sure, 0⟩], 65536, 0, 0, false, false⟩) rfl
  rw [o1] at a1
  rw [o3] at a2
  rw [a1, a2]
  have hl1 : look [(⟨m, sure, 0⟩ : DF)] m = some ⟨m, sure, 0⟩ := by simp [look]
  obtain ⟨b1, b2⟩ := sync_is (st := ⟨[⟨m, sure, 0⟩], 65536, 0 + 1, 0, false, false⟩) (s := m) rfl hl1
  obtain ⟨p1, p2, p3⟩ := opE_ok (st := ⟨[⟨m, sure, 0⟩], 65536, 0 + 1, 0, false, false⟩) rfl
  rw [p1] at b1
  rw [p2, p3, if_pos rfl] at b2
  have hmod : modF surely [(⟨m, sure, 0⟩ : DF)] m = [⟨m, sure, sure.size⟩] := by simp [modF, surely]
  have b2' : syncS ⟨[⟨m, sure, 0⟩], 65536, 0 + 1, 0, false, false⟩ m = ⟨[⟨m, sure, sure.size⟩], 65536, 2, 0, false, false⟩ := by
    rw [b2]
    show (⟨modF surely [(⟨m, sure, 0⟩ : DF)] m, 65536, 2, 0, false, false⟩ : DS) = _
    rw [hmod]
  have hl2 : look [(⟨m, sure, sure.size⟩ : DF)] m = some ⟨m, sure, sure.size⟩ := by simp [look]
  have e1 : syncE ⟨[⟨m, sure, 0⟩], 65536, 0 + 1, 0, false, false⟩ m = 0 := b1
  refine ⟨rfl, e1, ?_⟩
  rw [b2']
  obtain ⟨c1, c2⟩ := app_is (st := ⟨[⟨m, sure, sure.size⟩], 65536, 2, 0, false, false⟩) (s := m) (b := more) rfl hm (by show sure.size + 0 + more.size ≤ 65536; omega)
  have hf2 : grown (fileOf ⟨[⟨m, sure, sure.size⟩], 65536, 2, 0, false, false⟩ m) more = ⟨m, sure ++ more, sure.size⟩ := by
    have : fileOf ⟨[⟨m, sure, sure.size⟩], 65536, 2, 0, false, false⟩ m = ⟨m, sure, sure.size⟩ := by unfold fileOf; rw [hl2]; rfl
    rw [this]
    rfl
  have hput : putF [(⟨m, sure, sure.size⟩ : DF)] ⟨m, sure ++ more, sure.size⟩ = [⟨m, sure ++ more, sure.size⟩] := by simp [putF, takeF, ins]
  have hp2 : put ⟨[⟨m, sure, sure.size⟩], 65536, 2, 0, false, false⟩ ⟨m, sure ++ more, sure.size⟩ = ⟨[⟨m, sure ++ more, sure.size⟩], 65536, 2, 0, false, false⟩ := by
    unfold put
    rw [hput]
  rw [hf2, hp2] at c1 c2
  obtain ⟨q1, _, q3⟩ := opE_ok (st := ⟨[⟨m, sure ++ more, sure.size⟩], 65536, 2, 0, false, false⟩) rfl
  rw [q1] at c1
  rw [q3] at c2
  rw [c1, c2]
  exact ⟨rfl, by simp [look], List.pairwise_singleton _ _, rfl, by simp⟩

def nA : ByteArray := ⟨#[97]⟩
def nB : ByteArray := ⟨#[98]⟩
theorem nA_name : isName nA := by decide
theorem nB_name : isName nB := by decide
theorem less_ba : less nB nA = false := by
  unfold less
  rw [ByteArray.toList_eq, ByteArray.toList_eq]
  rfl
theorem ne_ab : nA ≠ nB := by decide
/-- The states that a file goes through that is written beside. -/
def wA (old : ByteArray) (n : Nat) (h : Bool) : DS := ⟨[⟨nA, old, old.size⟩], 65536, 2, n, h, false⟩
def wholeF (st : DS) (fresh : ByteArray) : Int :=
  if appE st nB fresh = 0 then if syncE (appS st nB fresh) nB = 0 then renE (syncS (appS st nB fresh) nB) nB nA else syncE (appS st nB fresh) nB else appE st nB fresh
def wholeS (st : DS) (fresh : ByteArray) : DS :=
  if appE st nB fresh = 0 then if syncE (appS st nB fresh) nB = 0 then renS (syncS (appS st nB fresh) nB) nB nA else syncS (appS st nB fresh) nB else appS st nB fresh
theorem crash_sure {l : List DF} {keep : Nat → Option Int} {m b : ByteArray} (hs : Sorted l) (hl : look l m = some ⟨m, b, b.size⟩) (hb : 0 < b.size) : look (crashF keep 0 l) m = some ⟨m, b, b.size⟩ := by
  obtain ⟨k, hk⟩ := look_crash (keep := keep) (i := 0) hs hl
  have e : kept ⟨m, b, b.size⟩ k = b.size := by
    unfold kept
    cases k with
    | none => rfl
    | some x => simp [Nat.mod_one]
  rw [e, if_pos hb] at hk
  rw [hk]
  have : b.extract 0 b.size = b := by
    apply ext_bytes
    rw [ByteArray.data_extract, Array.toList_extract]
    exact List.take_of_length_le (by rw [List.drop_zero, size_list]; omega)
  simp only [this]
theorem put_b (old fresh : ByteArray) : putF [(⟨nA, old, old.size⟩ : DF)] ⟨nB, fresh, 0⟩ = [⟨nA, old, old.size⟩, ⟨nB, fresh, 0⟩] := by
  simp [putF, takeF, ins, ne_ab, less_ba]
theorem ren_b (old fresh : ByteArray) : putF (takeF [(⟨nA, old, old.size⟩ : DF), ⟨nB, fresh, fresh.size⟩] nB) (called nA ⟨nB, fresh, fresh.size⟩) = [⟨nA, fresh, fresh.size⟩] := by
  have h1 : takeF [(⟨nA, old, old.size⟩ : DF), ⟨nB, fresh, fresh.size⟩] nB = [⟨nA, old, old.size⟩] := by simp [takeF, ne_ab]
  rw [h1]
  simp [putF, takeF, ins, called]
theorem app_b (old fresh : ByteArray) (n : Nat) (h : Bool) (h1 : old.size ≤ 200) (h2 : fresh.size ≤ 200) :
    appE (wA old n h) nB fresh = opE ⟨[⟨nA, old, old.size⟩, ⟨nB, fresh, 0⟩], 65536, 2, n, h, false⟩ ∧ appS (wA old n h) nB fresh = opS ⟨[⟨nA, old, old.size⟩, ⟨nB, fresh, 0⟩], 65536, 2, n, h, false⟩ := by
  obtain ⟨a1, a2⟩ := app_is (st := wA old n h) (s := nB) (b := fresh) rfl nB_name (by show old.size + 0 + fresh.size ≤ 65536; omega)
  have hl : look (wA old n h).fs nB = none := by simp [wA, look, ne_ab]
  have hf : grown (fileOf (wA old n h) nB) fresh = ⟨nB, fresh, 0⟩ := by
    have : fileOf (wA old n h) nB = ⟨nB, ⟨#[]⟩, 0⟩ := by unfold fileOf; rw [hl]; rfl
    rw [this]
    show (⟨nB, ⟨#[]⟩ ++ fresh, 0⟩ : DF) = _
    rw [nil_append]
  have hp : put (wA old n h) ⟨nB, fresh, 0⟩ = ⟨[⟨nA, old, old.size⟩, ⟨nB, fresh, 0⟩], 65536, 2, n, h, false⟩ := by
    unfold put wA
    simp only
    rw [put_b]
  rw [hf, hp] at a1 a2
  exact ⟨a1, a2⟩
theorem sync_b (old fresh : ByteArray) (k n : Nat) (h : Bool) :
    syncE ⟨[⟨nA, old, old.size⟩, ⟨nB, fresh, 0⟩], 65536, k, n, h, false⟩ nB = opE ⟨[⟨nA, old, old.size⟩, ⟨nB, fresh, 0⟩], 65536, k, n, h, false⟩ ∧
    syncS ⟨[⟨nA, old, old.size⟩, ⟨nB, fresh, 0⟩], 65536, k, n, h, false⟩ nB = (if opD ⟨[⟨nA, old, old.size⟩, ⟨nB, fresh, 0⟩], 65536, k, n, h, false⟩ then { opS ⟨[⟨nA, old, old.size⟩, ⟨nB, fresh, 0⟩], 65536, k, n, h, false⟩ with fs := [⟨nA, old, old.size⟩, ⟨nB, fresh, fresh.size⟩] } else opS ⟨[⟨nA, old, old.size⟩, ⟨nB, fresh, 0⟩], 65536, k, n, h, false⟩) := by
  have hl : look [(⟨nA, old, old.size⟩ : DF), ⟨nB, fresh, 0⟩] nB = some ⟨nB, fresh, 0⟩ := by simp [look, ne_ab]
  have hm : modF surely [(⟨nA, old, old.size⟩ : DF), ⟨nB, fresh, 0⟩] nB = [⟨nA, old, old.size⟩, ⟨nB, fresh, fresh.size⟩] := by simp [modF, surely, ne_ab]
  obtain ⟨b1, b2⟩ := sync_is (st := ⟨[⟨nA, old, old.size⟩, ⟨nB, fresh, 0⟩], 65536, k, n, h, false⟩) (s := nB) rfl hl
  simp only at b2
  rw [hm] at b2
  exact ⟨b1, b2⟩
theorem ren_is_b (old fresh : ByteArray) (k n : Nat) (h : Bool) :
    renE ⟨[⟨nA, old, old.size⟩, ⟨nB, fresh, fresh.size⟩], 65536, k, n, h, false⟩ nB nA = opE ⟨[⟨nA, old, old.size⟩, ⟨nB, fresh, fresh.size⟩], 65536, k, n, h, false⟩ ∧
    renS ⟨[⟨nA, old, old.size⟩, ⟨nB, fresh, fresh.size⟩], 65536, k, n, h, false⟩ nB nA = (if opD ⟨[⟨nA, old, old.size⟩, ⟨nB, fresh, fresh.size⟩], 65536, k, n, h, false⟩ then { opS ⟨[⟨nA, old, old.size⟩, ⟨nB, fresh, fresh.size⟩], 65536, k, n, h, false⟩ with fs := [⟨nA, fresh, fresh.size⟩] } else opS ⟨[⟨nA, old, old.size⟩, ⟨nB, fresh, fresh.size⟩], 65536, k, n, h, false⟩) := by
  have hl : look [(⟨nA, old, old.size⟩ : DF), ⟨nB, fresh, fresh.size⟩] nB = some ⟨nB, fresh, fresh.size⟩ := by simp [look, ne_ab]
  obtain ⟨b1, b2⟩ := ren_is (st := ⟨[⟨nA, old, old.size⟩, ⟨nB, fresh, fresh.size⟩], 65536, k, n, h, false⟩) (a := nB) (b := nA) rfl nA_name hl
  simp only at b2
  rw [ren_b] at b2
  exact ⟨b1, b2⟩
/-- What is read behind a crash of a disk whose file a is all sure. -/
theorem read_crash {st : DS} {b : ByteArray} (hs : Sorted st.fs) (hl : look st.fs nA = some ⟨nA, b, b.size⟩) (hb : 0 < b.size) (keep : Nat → Option Int) : readE (crashS st keep) nA = 0 ∧ readS (crashS st keep) nA = b :=
  (read_is (st := crashS st keep) (s := nA) rfl).1 _ (crash_sure hs hl hb)
theorem sorted_ab (f g : DF) (hf : f.name = nA) (hg : g.name = nB) : Sorted [f, g] := by
  refine List.pairwise_cons.2 ⟨fun x hx => ?_, List.pairwise_singleton _ _⟩
  have := List.mem_singleton.1 hx
  rw [this, hf, hg]
  exact less_total less_ba (fun e => ne_ab e.symm)
/-- A file that was written beside is the elder or the new one, whole. -/
theorem whole_end (old fresh : ByteArray) (n : Nat) (h : Bool) (keep : Nat → Option Int) (h1 : 1 ≤ old.size ∧ old.size ≤ 200) (h2 : 1 ≤ fresh.size ∧ fresh.size ≤ 200) :
    (wholeF (wA old n h) fresh = 0 ∨ wholeF (wA old n h) fresh = 14) ∧ readE (crashS (wholeS (wA old n h) fresh) keep) nA = 0 ∧
    (readS (crashS (wholeS (wA old n h) fresh) keep) nA = fresh ∨ (wholeF (wA old n h) fresh ≠ 0 ∧ readS (crashS (wholeS (wA old n h) fresh) keep) nA = old)) := by
  have la : ∀ g : DF, look [(⟨nA, old, old.size⟩ : DF), g] nA = some ⟨nA, old, old.size⟩ := fun g => by simp [look]
  have lc : look [(⟨nA, fresh, fresh.size⟩ : DF)] nA = some ⟨nA, fresh, fresh.size⟩ := by simp [look]
  have sa : ∀ x : Nat, Sorted [(⟨nA, old, old.size⟩ : DF), ⟨nB, fresh, x⟩] := fun x => sorted_ab _ _ rfl rfl
  obtain ⟨a1, a2⟩ := app_b old fresh n h h1.2 h2.2
  unfold wholeF wholeS
  rw [a1, a2]
  by_cases n1 : n = 1
  · obtain ⟨o1, _, o3⟩ := opE_last (st := ⟨[⟨nA, old, old.size⟩, ⟨nB, fresh, 0⟩], 65536, 2, n, h, false⟩) n1
    rw [o1, o3, if_neg (by omega), if_neg (by omega)]
    obtain ⟨r1, r2⟩ := read_crash (st := ⟨[⟨nA, old, old.size⟩, ⟨nB, fresh, 0⟩], 65536, 3, 0, h, true⟩) (sa 0) (la _) (by omega) keep
    exact ⟨.inr rfl, r1, .inr ⟨by omega, r2⟩⟩
  · obtain ⟨m1, hm1, o1, o3⟩ : ∃ m1, (m1 = n - 1) ∧ opE ⟨[⟨nA, old, old.size⟩, ⟨nB, fresh, 0⟩], 65536, 2, n, h, false⟩ = 0 ∧ opS ⟨[⟨nA, old, old.size⟩, ⟨nB, fresh, 0⟩], 65536, 2, n, h, false⟩ = ⟨[⟨nA, old, old.size⟩, ⟨nB, fresh, 0⟩], 65536, 3, m1, h, false⟩ := by
      by_cases n0 : n = 0
      · obtain ⟨o1, _, o3⟩ := opE_ok (st := ⟨[⟨nA, old, old.size⟩, ⟨nB, fresh, 0⟩], 65536, 2, n, h, false⟩) n0
        refine ⟨0, by omega, o1, ?_⟩
        rw [o3, n0]
      · obtain ⟨o1, _, o3⟩ := opE_more (st := ⟨[⟨nA, old, old.size⟩, ⟨nB, fresh, 0⟩], 65536, 2, n, h, false⟩) n0 (by show 1 < n; omega)
        exact ⟨n - 1, rfl, o1, o3⟩
    rw [o1, o3, if_pos rfl, if_pos rfl]
    obtain ⟨b1, b2⟩ := sync_b old fresh 3 m1 h
    rw [b1, b2]
    by_cases n2 : m1 = 1
    · obtain ⟨p1, p2, p3⟩ := opE_last (st := ⟨[⟨nA, old, old.size⟩, ⟨nB, fresh, 0⟩], 65536, 3, m1, h, false⟩) n2
      rw [p1, p2, p3, if_neg (by omega), if_neg (by omega)]
      have hfin : ∀ x : Nat, readE (crashS ⟨[⟨nA, old, old.size⟩, ⟨nB, fresh, x⟩], 65536, 4, 0, h, true⟩ keep) nA = 0 ∧ readS (crashS ⟨[⟨nA, old, old.size⟩, ⟨nB, fresh, x⟩], 65536, 4, 0, h, true⟩ keep) nA = old := fun x =>
        read_crash (sa x) (la _) (by omega) keep
      cases h with
      | true => exact ⟨.inr rfl, (hfin _).1, .inr ⟨by omega, (hfin _).2⟩⟩
      | false => exact ⟨.inr rfl, (hfin _).1, .inr ⟨by omega, (hfin _).2⟩⟩
    · obtain ⟨m2, hm2, p1, p2, p3⟩ : ∃ m2, (m2 = m1 - 1) ∧ opE ⟨[⟨nA, old, old.size⟩, ⟨nB, fresh, 0⟩], 65536, 3, m1, h, false⟩ = 0 ∧ opD ⟨[⟨nA, old, old.size⟩, ⟨nB, fresh, 0⟩], 65536, 3, m1, h, false⟩ = true ∧ opS ⟨[⟨nA, old, old.size⟩, ⟨nB, fresh, 0⟩], 65536, 3, m1, h, false⟩ = ⟨[⟨nA, old, old.size⟩, ⟨nB, fresh, 0⟩], 65536, 4, m2, h, false⟩ := by
        by_cases n0 : m1 = 0
        · obtain ⟨o1, o2, o3⟩ := opE_ok (st := ⟨[⟨nA, old, old.size⟩, ⟨nB, fresh, 0⟩], 65536, 3, m1, h, false⟩) n0
          refine ⟨0, by omega, o1, o2, ?_⟩
          rw [o3, n0]
        · obtain ⟨o1, o2, o3⟩ := opE_more (st := ⟨[⟨nA, old, old.size⟩, ⟨nB, fresh, 0⟩], 65536, 3, m1, h, false⟩) n0 (by show 1 < m1; omega)
          exact ⟨m1 - 1, rfl, o1, o2, o3⟩
      rw [p1, p2, p3, if_pos rfl, if_pos rfl]
      show (renE ⟨[⟨nA, old, old.size⟩, ⟨nB, fresh, fresh.size⟩], 65536, 4, m2, h, false⟩ nB nA = 0 ∨ renE ⟨[⟨nA, old, old.size⟩, ⟨nB, fresh, fresh.size⟩], 65536, 4, m2, h, false⟩ nB nA = 14) ∧ readE (crashS (renS ⟨[⟨nA, old, old.size⟩, ⟨nB, fresh, fresh.size⟩], 65536, 4, m2, h, false⟩ nB nA) keep) nA = 0 ∧
        (readS (crashS (renS ⟨[⟨nA, old, old.size⟩, ⟨nB, fresh, fresh.size⟩], 65536, 4, m2, h, false⟩ nB nA) keep) nA = fresh ∨ (renE ⟨[⟨nA, old, old.size⟩, ⟨nB, fresh, fresh.size⟩], 65536, 4, m2, h, false⟩ nB nA ≠ 0 ∧ readS (crashS (renS ⟨[⟨nA, old, old.size⟩, ⟨nB, fresh, fresh.size⟩], 65536, 4, m2, h, false⟩ nB nA) keep) nA = old))
      obtain ⟨c1, c2⟩ := ren_is_b old fresh 4 m2 h
      rw [c1, c2]
      have hnew : ∀ (k l : Nat) (d : Bool), readE (crashS ⟨[⟨nA, fresh, fresh.size⟩], 65536, k, l, h, d⟩ keep) nA = 0 ∧ readS (crashS ⟨[⟨nA, fresh, fresh.size⟩], 65536, k, l, h, d⟩ keep) nA = fresh := fun k l d =>
        read_crash (st := ⟨[⟨nA, fresh, fresh.size⟩], 65536, k, l, h, d⟩) (List.pairwise_singleton _ _) lc (by omega) keep
      by_cases n3 : m2 = 1
      · obtain ⟨q1, q2, q3⟩ := opE_last (st := ⟨[⟨nA, old, old.size⟩, ⟨nB, fresh, fresh.size⟩], 65536, 4, m2, h, false⟩) n3
        rw [q1, q2, q3]
        have hold := read_crash (st := ⟨[⟨nA, old, old.size⟩, ⟨nB, fresh, fresh.size⟩], 65536, 5, 0, h, true⟩) (sa _) (la _) (by omega) keep
        cases h with
        | true => exact ⟨.inr rfl, (hnew 5 0 true).1, .inl (hnew 5 0 true).2⟩
        | false => exact ⟨.inr rfl, hold.1, .inr ⟨by omega, hold.2⟩⟩
      · by_cases n0 : m2 = 0
        · obtain ⟨q1, q2, q3⟩ := opE_ok (st := ⟨[⟨nA, old, old.size⟩, ⟨nB, fresh, fresh.size⟩], 65536, 4, m2, h, false⟩) n0
          rw [q1, q2, q3, if_pos rfl]
          exact ⟨.inl rfl, (hnew 5 m2 false).1, .inl (hnew 5 m2 false).2⟩
        · obtain ⟨q1, q2, q3⟩ := opE_more (st := ⟨[⟨nA, old, old.size⟩, ⟨nB, fresh, fresh.size⟩], 65536, 4, m2, h, false⟩) n0 (by show 1 < m2; omega)
          rw [q1, q2, q3, if_pos rfl]
          exact ⟨.inl rfl, (hnew 5 (m2 - 1) false).1, .inl (hnew 5 (m2 - 1) false).2⟩
end Go.Proofs.Ytflkglnmenbmaaa.Disk
