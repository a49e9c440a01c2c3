/- Requests, of no program: which numbers, texts and lists the shape of a call lets be. -/
import Derived.Test.YtgolihipinjfmaaGreatDoorCTab
import Derived.Test.YtgolihipinjfmaaGreatDoorCMod
import Derived.Lib.MapLaws
namespace Go.Proofs.YtgolihipinjfmaaGreatDoor.J
open Go
open Go.Proofs.YtgolihipinjfmaaGreatDoor.C (cshape cgate byt flagE)

def upTo (n most : Int) : Bool := decide (0 ≤ n) && decide (n ≤ most)
/-- Whether a number may stand for a letter. -/
def takesB (c n : Int) : Bool :=
  if c = 102 ∨ c = 100 ∨ c = 120 ∨ c = 105 then true else if c = 110 then upTo n 256 else if c = 111 then upTo n 1099511627776 else if c = 119 ∨ c = 104 then upTo n 2 else if c = 117 then upTo n 1
  else if c = 101 then upTo n 255 else if c = 115 then upTo n 31 else if c = 109 then upTo n 4 else if c = 99 then upTo n 64 else if c = 98 then upTo n 1048576 else if c = 107 then n == 0 || n == 4 else if c = 103 then flagE n == 0 else false
/-- The same of a number for which no letter stands. -/
def fitB (c n : Int) : Bool := takesB c n || (c == 46 && n == 0)

/-- A request. -/
structure Rq where
  no : Int
  a0 : Int
  a1 : Int
  a2 : Int
  a3 : Int
  a4 : Int
  S : ByteArray
  T : ByteArray
  l : List Int
def Rq.a (r : Rq) : List Int := [r.a0, r.a1, r.a2, r.a3, r.a4]

def isSm (b : UInt8) : Bool := decide (97 ≤ b.toNat) && decide (b.toNat ≤ 122)
/-- The small letters of a shape, and the others. -/
def sm (k : Fin 64) : List UInt8 := (cshape k).filter isSm
def cp (k : Fin 64) : List UInt8 := (cshape k).filter fun b => !isSm b
def ltr (s : List UInt8) (i : Nat) : Int := (s[i]?.map fun b => (b.toNat : Int)).getD 46
/-- Whether it is so of all numbers, each with its letter. -/
def numB (f : Int → Int → Bool) (s : List UInt8) (a : List Int) : Bool := (List.range 5).all fun i => f (ltr s i) (a.getD i 0)
def has (k : Fin 64) (c : UInt8) : Bool := (cshape k).contains c
def mostS (k : Fin 64) : Nat := if has k 83 || has k 89 then 4096 else if has k 66 then 256 else 0
def mostT (k : Fin 64) : Nat := if has k 84 then 4096 else 0
/-- Pairs, of which the second may be 1 to 3. -/
def pairB : List Int → Bool
  | [] => true
  | [_] => false
  | _ :: b :: r => decide (1 ≤ b) && decide (b ≤ 3) && pairB r
def polB (l : List Int) : Bool := pairB l && decide (l.length ≤ 16)
def listB (k : Fin 64) (l : List Int) : Bool := if has k 76 then decide (l.length ≤ 4) else if has k 82 then decide (l.length = 2) else if has k 73 then decide (l.length ≤ 64) else if has k 80 then polB l else decide (l.length = 0)
def okB (k : Fin 64) (r : Rq) : Bool := numB fitB (sm k) r.a && decide (r.S.size ≤ mostS k) && decide (r.T.size ≤ mostT k) && listB k r.l

def kOf (no : Int) : Option (Fin 64) := if h : 1 ≤ no ∧ no ≤ 64 then some ⟨(no - 1).toNat, by omega⟩ else none
theorem kOf_at (k : Fin 64) : kOf ((k.val : Int) + 1) = some k := by
  unfold kOf
  rw [dif_pos (by omega)]
  exact congrArg some (Fin.ext (by simp))
theorem kOf_no {no : Int} (h : ∀ k : Fin 64, (k.val : Int) + 1 ≠ no) : kOf no = none := by
  unfold kOf
  rw [dif_neg]
  intro hh
  exact h ⟨(no - 1).toNat, by omega⟩ (by show ((no - 1).toNat : Int) + 1 = no; omega)
theorem kcases (no : Int) : (∃ k : Fin 64, (k.val : Int) + 1 = no) ∨ (∀ k : Fin 64, (k.val : Int) + 1 ≠ no) := by
  by_cases h : ∃ k : Fin 64, (k.val : Int) + 1 = no
  · exact .inl h
  · exact .inr fun k hk => h ⟨k, hk⟩

/-- What Check answers. -/
def chkE (b : Bool) : Int := if b then 0 else 22
def chk (r : Rq) : Int := match kOf r.no with | some k => chkE (okB k r) | none => 78
theorem chk_at {k : Fin 64} {r : Rq} (h : (k.val : Int) + 1 = r.no) : chk r = chkE (okB k r) := by unfold chk; rw [← h, kOf_at]
theorem chk_no {r : Rq} (h : ∀ k : Fin 64, (k.val : Int) + 1 ≠ r.no) : chk r = 78 := by unfold chk; rw [kOf_no h]
/-- Whether capability mode refuses a call that is handed these directories. -/
def shutB (k : Fin 64) (r : Rq) (cap : Bool) : Bool := cap && (cgate k == 1 || (cgate k == 2 && (r.a0 == -100 || (ltr (sm k) 1 == 100 && r.a1 == -100))))
def gatE (k : Fin 64) (r : Rq) (cap : Bool) : Int := if okB k r then (if shutB k r cap then 94 else 0) else 22
def gat (r : Rq) (cap : Bool) : Int := match kOf r.no with | some k => gatE k r cap | none => 78
theorem gat_at {k : Fin 64} {r : Rq} {cap : Bool} (h : (k.val : Int) + 1 = r.no) : gat r cap = gatE k r cap := by unfold gat; rw [← h, kOf_at]
theorem gat_no {r : Rq} {cap : Bool} (h : ∀ k : Fin 64, (k.val : Int) + 1 ≠ r.no) : gat r cap = 78 := by unfold gat; rw [kOf_no h]
/-- A call's number alone. -/
def bare (no : Int) : Rq := ⟨no, 0, 0, 0, 0, 0, ⟨#[]⟩, ⟨#[]⟩, []⟩
def pln (r : Rq) : Rq := if chk r = 0 then r else bare r.no

-- the reference's way: letter by letter
def sF : List UInt8 → Nat → Nat
  | [], s => s
  | x :: r, s => sF r (if x = 83 then 4096 else if x = 89 then 4096 else if x = 66 then 256 else s)
def tF : List UInt8 → Nat → Nat
  | [], s => s
  | x :: r, s => tF r (if x = 84 then 4096 else s)
def lF : List UInt8 → Nat → Nat
  | [], s => s
  | x :: r, s => lF r (if x = 76 then 4 else if x = 73 then 64 else if x = 82 then 2 else if x = 80 then 16 else s)
def rF : List UInt8 → Bool → Bool
  | [], s => s
  | x :: r, s => rF r (if x = 82 then true else s)
def isCap (x : UInt8) : Bool := x == 83 || x == 89 || x == 66 || x == 84 || x == 76 || x == 73 || x == 82
/-- Whether all letters, from one on, have what may stand for them, and what is left is 0. -/
def scanB (a l : List Int) : List UInt8 → Nat → Bool
  | [], i => (a.drop i).all fun n => n == 0
  | x :: r, i => if isCap x then scanB a l r i else if x = 80 then pairB l && scanB a l r i else takesB x.toNat (a.getD i 0) && scanB a l r (i + 1)
def refB (sh : List UInt8) (r : Rq) : Bool := scanB r.a r.l sh 0 && decide (r.S.size ≤ sF sh 0) && decide (r.T.size ≤ tF sh 0) && decide (r.l.length ≤ lF sh 0) && (!rF sh false || decide (r.l.length = 2))

theorem shape_parts : ∀ k : Fin 64, cshape k = sm k ++ cp k ∧ (sm k).length ≤ 5 ∧ (cp k).all (fun x => isCap x || x == 80) = true ∧ (sm k).all (fun x => !isCap x && x != 80 && x != 46) = true ∧ (cshape k).length ≤ 6 := by decide +kernel
theorem shape_most : ∀ k : Fin 64, sF (cshape k) 0 = mostS k ∧ tF (cshape k) 0 = mostT k := by decide +kernel
theorem shape_list : ∀ k : Fin 64, lF (cshape k) 0 = (if has k 76 then 4 else if has k 82 then 2 else if has k 73 then 64 else if has k 80 then 16 else 0) ∧ rF (cshape k) false = (!has k 76 && has k 82) ∧ (cp k).contains 80 = has k 80 ∧ (has k 80 = true → has k 76 = false ∧ has k 82 = false ∧ has k 73 = false) := by decide +kernel
theorem shape_gate : ∀ k : Fin 64, cgate k = 2 → ltr (sm k) 0 = 100 ∧ (∀ i : Fin 5, 2 ≤ i.val → ltr (sm k) i.val ≠ 100) := by decide +kernel
theorem shape_two : ∀ k : Fin 64, (decide (1 < (cshape k).length) && (cshape k).getD 1 0 == 100) = (ltr (sm k) 1 == 100) := by decide +kernel

theorem scan_caps (a l : List Int) : ∀ (cs : List UInt8) (i : Nat), cs.all (fun x => isCap x || x == 80) = true → scanB a l cs i = ((!cs.contains 80 || pairB l) && (a.drop i).all fun n => n == 0)
  | [], i, _ => by simp [scanB]
  | x :: r, i, h => by
    rw [List.all_cons, Bool.and_eq_true] at h
    have ih := scan_caps a l r i h.2
    rw [scanB]
    by_cases hx : isCap x = true
    · have hne : ¬ (80 : UInt8) = x := by rintro rfl; revert hx; decide
      rw [if_pos hx, ih]
      simp [hne]
    · rw [if_neg hx]
      have h80 : x = 80 := by
        have := h.1
        simp only [Bool.or_eq_true, hx, beq_iff_eq] at this
        simpa using this
      subst h80
      rw [if_pos rfl, ih]
      cases pairB l <;> simp
theorem scan_smalls (a l : List Int) (cs : List UInt8) : ∀ (s : List UInt8) (i : Nat), s.all (fun x => !isCap x && x != 80 && x != 46) = true → scanB a l (s ++ cs) i = ((List.range s.length).all (fun j => takesB (ltr s j) (a.getD (i + j) 0)) && scanB a l cs (i + s.length))
  | [], i, _ => by simp
  | x :: r, i, h => by
    rw [List.all_cons, Bool.and_eq_true] at h
    have ih := scan_smalls a l cs r (i + 1) h.2
    have hx := h.1
    simp only [Bool.and_eq_true, Bool.not_eq_true', bne_iff_ne] at hx
    rw [List.cons_append, scanB, if_neg (by rw [hx.1.1]; simp), if_neg (by simpa using hx.1.2), ih, List.length_cons, List.range_succ_eq_map, List.all_cons, List.all_map]
    have e1 : ltr (x :: r) 0 = x.toNat := rfl
    have e2 : (fun j => takesB (ltr (x :: r) j) (a.getD (i + j) 0)) ∘ Nat.succ = fun j => takesB (ltr r j) (a.getD (i + 1 + j) 0) := by
      funext j
      simp only [Function.comp, Nat.succ_eq_add_one]
      rw [show i + (j + 1) = i + 1 + j by omega]
      rfl
    rw [e1, e2, show i + 1 + r.length = i + (r.length + 1) by omega]
    simp only [Nat.add_zero]
    rw [Bool.and_assoc]
theorem fit_letter {c n : Int} (h : c ≠ 46) : fitB c n = takesB c n := by
  unfold fitB
  have : (c == 46) = false := by simpa using h
  rw [this]
  simp
theorem fit_none (n : Int) : fitB 46 n = (n == 0) := by
  unfold fitB takesB
  simp
theorem ltr_at {s : List UInt8} {i : Nat} {x : UInt8} (h : s[i]? = some x) : ltr s i = x.toNat := by unfold ltr; rw [h]; rfl
theorem ltr_no {s : List UInt8} {i : Nat} (h : s.length ≤ i) : ltr s i = 46 := by unfold ltr; rw [List.getElem?_eq_none h]; rfl
/-- Five numbers, letter by letter and then those that are left. -/
theorem num_is (s : List UInt8) (a0 a1 a2 a3 a4 : Int) (h5 : s.length ≤ 5) (hs : s.all (fun x => !isCap x && x != 80 && x != 46) = true) :
    numB fitB s [a0, a1, a2, a3, a4] = ((List.range s.length).all (fun j => takesB (ltr s j) ([a0, a1, a2, a3, a4].getD (0 + j) 0)) && (([a0, a1, a2, a3, a4].drop (0 + s.length)).all fun n => n == 0)) := by
  have hne : ∀ i x, s[i]? = some x → ltr s i ≠ 46 := fun i x hx => by
    rw [ltr_at hx]
    have := List.all_eq_true.1 hs x (List.mem_of_getElem? hx)
    simp only [Bool.and_eq_true, bne_iff_ne] at this
    intro e
    exact this.2 (by apply UInt8.toNat_inj.1; show x.toNat = 46; omega)
  have hfit : ∀ i n, i < s.length → fitB (ltr s i) n = takesB (ltr s i) n := fun i n hi => fit_letter (hne i s[i] (List.getElem?_eq_getElem hi))
  have hnon : ∀ i n, s.length ≤ i → fitB (ltr s i) n = (n == 0) := fun i n hi => by rw [ltr_no hi, fit_none]
  obtain ⟨m, hm⟩ : ∃ m, s.length = m := ⟨_, rfl⟩
  rw [hm] at h5 hfit hnon ⊢
  unfold numB
  generalize ltr s = f at *
  have : m = 0 ∨ m = 1 ∨ m = 2 ∨ m = 3 ∨ m = 4 ∨ m = 5 := by omega
  rcases this with rfl | rfl | rfl | rfl | rfl | rfl
  · simp [List.range, List.range.loop, hnon]
  · simp [List.range, List.range.loop, hnon, hfit]
  · simp [List.range, List.range.loop, hnon, hfit, Bool.and_assoc]
  · simp [List.range, List.range.loop, hnon, hfit, Bool.and_assoc]
  · simp [List.range, List.range.loop, hnon, hfit, Bool.and_assoc]
  · simp [List.range, List.range.loop, hfit]
/-- The reference's answer is the shape's. -/
theorem ref_is (k : Fin 64) (r : Rq) : refB (cshape k) r = okB k r := by
  obtain ⟨h1, h2, h3, h4, _⟩ := shape_parts k
  obtain ⟨h5, h6⟩ := shape_most k
  obtain ⟨h7, h8, h9, h10⟩ := shape_list k
  unfold refB okB
  rw [h5, h6, h7, h8, h1, scan_smalls _ _ _ _ _ h4, scan_caps _ _ _ _ h3, h9]
  have hn := num_is (sm k) r.a0 r.a1 r.a2 r.a3 r.a4 h2 h4
  unfold Rq.a
  rw [hn]
  generalize ((List.range (sm k).length).all fun j => takesB (ltr (sm k) j) ([r.a0, r.a1, r.a2, r.a3, r.a4].getD (0 + j) 0)) = x1
  generalize (([r.a0, r.a1, r.a2, r.a3, r.a4].drop (0 + (sm k).length)).all fun n => n == 0) = x2
  generalize decide (r.S.size ≤ mostS k) = x3
  generalize decide (r.T.size ≤ mostT k) = x4
  unfold listB polB
  generalize pairB r.l = x5
  generalize r.l.length = n at *
  cases e80 : has k 80 with
  | true =>
    obtain ⟨e1, e2, e3⟩ := h10 e80
    rw [e1, e2, e3]
    cases x1 <;> cases x2 <;> cases x3 <;> cases x4 <;> cases x5 <;> simp
  | false =>
    cases has k 76 <;> cases has k 82 <;> cases has k 73 <;> cases x1 <;> cases x2 <;> cases x3 <;> cases x4 <;> simp <;> (by_cases q : n = 2 <;> simp [q])

theorem pair_odd : ∀ l : List Int, l.length % 2 = 1 → pairB l = false
  | [], h => by simp at h
  | [_], _ => rfl
  | _ :: _ :: r, h => by
    have h' : (r.length + 1 + 1) % 2 = 1 := h
    rw [pairB, pair_odd r (by omega)]
    simp
theorem pair_step {l : List Int} {j : Nat} {b : Int} (h : l[2 * j + 1]? = some b) : pairB (l.drop (2 * j)) = (decide (1 ≤ b) && decide (b ≤ 3) && pairB (l.drop (2 * (j + 1)))) := by
  have hlt := (List.getElem?_eq_some_iff.1 h).1
  have hb := (List.getElem?_eq_some_iff.1 h).2
  rw [List.drop_eq_getElem_cons (show 2 * j < l.length by omega), List.drop_eq_getElem_cons hlt, pairB, hb]
  rfl
theorem pair_end {l : List Int} {j : Nat} (he : l.length % 2 = 0) (h : l.length ≤ 2 * j + 1) : pairB (l.drop (2 * j)) = true := by
  rw [List.drop_eq_nil_of_le (by omega)]
  rfl

/-- Whether a call that can be is refused, by its numbers. -/
def letB (g : Int) (cap : Bool) (c n : Int) : Bool := !(c == 100) || !(cap && (g == 1 || (g == 2 && n == -100)))
theorem shut_is (k : Fin 64) (r : Rq) (cap : Bool) : (!numB (letB (cgate k) cap) (sm k) r.a || !(!(cap && (cgate k == 1 || (cgate k == 2 && (0 : Int) == -100))))) = shutB k r cap := by
  unfold shutB
  cases cap with
  | false =>
    have : numB (letB (cgate k) false) (sm k) r.a = true := by unfold numB letB; simp
    rw [this]; rfl
  | true =>
    by_cases h1 : cgate k = 1
    · rw [h1]; simp
    · by_cases h2 : cgate k = 2
      · obtain ⟨h3, h4⟩ := shape_gate k h2
        have e2 := h4 ⟨2, by decide⟩ (by decide)
        have e3 := h4 ⟨3, by decide⟩ (by decide)
        have e4 := h4 ⟨4, by decide⟩ (by decide)
        unfold numB letB Rq.a
        rw [h2]
        simp only [List.range, List.range.loop, List.all_cons, List.all_nil]
        generalize ltr (sm k) 1 = z at *
        simp only at e2 e3 e4
        simp [h3]
        rw [Bool.eq_iff_iff]; simp
        by_cases q : r.a0 = -100 <;> by_cases q1 : r.a1 = -100 <;> by_cases q2 : z = 100 <;> simp [q, q1, q2, e2, e3, e4]
      · have e1 : (cgate k == 1) = false := by simpa using h1
        have e2 : (cgate k == 2) = false := by simpa using h2
        have : numB (letB (cgate k) true) (sm k) r.a = true := by unfold numB letB; rw [e1, e2]; simp
        rw [this, e1, e2]; rfl
/-- A number that may not stand for its letter, or stands for none. -/
theorem num_bad {k : Fin 64} {r : Rq} {i : Nat} (hi : i < 5) (h : fitB (ltr (sm k) i) (r.a.getD i 0) = false) : okB k r = false := by
  have : numB fitB (sm k) r.a = false := by
    unfold numB
    rw [List.all_eq_false]
    exact ⟨i, List.mem_range.2 hi, by rw [h]; simp⟩
  unfold okB
  rw [this]
  rfl

/-- What strings.Map leaves of a shape. -/
def smF (x : Int) : Int := if 97 ≤ x ∧ x ≤ 122 then x else -1
theorem map_sm : ∀ k : Fin 64, Lib.mapD smF (cshape k) = sm k := by decide +kernel

theorem not_letter {c : Int} (h : ¬ (c = 102 ∨ c = 100 ∨ c = 120 ∨ c = 105 ∨ c = 110 ∨ c = 111 ∨ c = 119 ∨ c = 104 ∨ c = 117 ∨ c = 101 ∨ c = 115 ∨ c = 109 ∨ c = 99 ∨ c = 98 ∨ c = 107 ∨ c = 103)) (n : Int) : takesB c n = false := by
  simp only [not_or] at h
  obtain ⟨h1, h2, h3, h4, h5, h6, h7, h8, h9, ha, hb, hc, hd, he, hf, hg⟩ := h
  simp [takesB, *]

end Go.Proofs.YtgolihipinjfmaaGreatDoor.J
