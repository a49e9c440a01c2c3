/- Paths as parts, without any program: what is cut out of a text, and that it is cut out of its text again. -/
import Derived.Lib.IndexBytes
namespace Go.Proofs.Ytidcfbjefemhdaa
open Go

theorem bytes_eq {a b : ByteArray} (h : a.data.toList = b.data.toList) : a = b := by
  cases a; cases b; simp only at h; exact congrArg _ (Array.ext' h)
/-- The byte at a place. -/
def byteAt (s : ByteArray) (k : Nat) : UInt8 := s.data.toList.getD k 0
theorem size_list (s : ByteArray) : s.data.toList.length = s.size := by rw [Array.length_toList]; rfl

/-- Where the part begins that is read, and the parts ahead of it, behind k bytes. -/
def stAt (s : ByteArray) : Nat → Nat × List ByteArray
  | 0 => (0, [])
  | k + 1 => if byteAt s k = 47 then (k + 1, if (stAt s k).1 < k then (stAt s k).2 ++ [s.extract (stAt s k).1 k] else (stAt s k).2) else stAt s k
def partsOf (s : ByteArray) : List ByteArray := if (stAt s s.size).1 < s.size then (stAt s s.size).2 ++ [s.extract (stAt s s.size).1 s.size] else (stAt s s.size).2

theorem st_le (s : ByteArray) : ∀ k, (stAt s k).1 ≤ k
  | 0 => Nat.le_refl _
  | k + 1 => by
    unfold stAt
    split
    · exact Nat.le_refl _
    · exact Nat.le_succ_of_le (st_le s k)
theorem st_slash {s : ByteArray} {k : Nat} (h : byteAt s k = 47) : stAt s (k + 1) = (k + 1, if (stAt s k).1 < k then (stAt s k).2 ++ [s.extract (stAt s k).1 k] else (stAt s k).2) := by
  rw [stAt, if_pos h]
theorem st_other {s : ByteArray} {k : Nat} (h : byteAt s k ≠ 47) : stAt s (k + 1) = stAt s k := by
  rw [stAt, if_neg h]
theorem st_len (s : ByteArray) : ∀ k, (stAt s k).2.length ≤ k
  | 0 => Nat.le_refl _
  | k + 1 => by
    have := st_len s k
    unfold stAt
    split
    · simp only
      split
      · simp; omega
      · omega
    · omega
theorem parts_len (s : ByteArray) : (partsOf s).length ≤ s.size + 1 := by
  have := st_len s s.size
  unfold partsOf
  split
  · simp; omega
  · omega

/-- Fields of a list of bytes. -/
def fields (cur : List UInt8) : List UInt8 → List (List UInt8)
  | [] => if cur = [] then [] else [cur]
  | c :: r => if c = 47 then (if cur = [] then fields [] r else cur :: fields [] r) else fields (cur ++ [c]) r

theorem take_succ_getD {l : List UInt8} {st k : Nat} (h : st ≤ k) (hk : k < l.length) : (l.drop st).take (k + 1 - st) = (l.drop st).take (k - st) ++ [l.getD k 0] := by
  rw [show k + 1 - st = (k - st) + 1 by omega, List.take_add_one]
  congr 1
  rw [List.getElem?_drop, show st + (k - st) = k by omega]
  simp [List.getD, hk]

theorem st_fields (s : ByteArray) : ∀ k, k ≤ s.size → fields [] s.data.toList = (stAt s k).2.map (·.data.toList) ++ fields ((s.data.toList.drop (stAt s k).1).take (k - (stAt s k).1)) (s.data.toList.drop k)
  | 0, _ => by simp [stAt]
  | k + 1, hk => by
    have hs := size_list s
    have IH := st_fields s k (by omega)
    have hle := st_le s k
    rw [IH, List.drop_eq_getElem_cons (show k < s.data.toList.length by omega)]
    have hg : s.data.toList[k]'(by omega) = byteAt s k := by unfold byteAt; rw [List.getD_eq_getElem?_getD, List.getElem?_eq_getElem (show k < s.data.toList.length by omega)]; rfl
    rw [hg, fields]
    by_cases hc : byteAt s k = 47
    · rw [if_pos hc, st_slash hc]
      simp only [Nat.sub_self, List.take_zero]
      by_cases hlt : (stAt s k).1 < k
      · rw [if_pos hlt, if_neg]
        · simp
        · intro e
          have := congrArg List.length e
          simp at this
          omega
      · rw [if_neg hlt, if_pos]
        rw [show k - (stAt s k).1 = 0 by omega, List.take_zero]
    · rw [if_neg hc, st_other hc, take_succ_getD hle (by omega)]
      rfl

theorem parts_fields (s : ByteArray) : (partsOf s).map (·.data.toList) = fields [] s.data.toList := by
  have hs := size_list s
  rw [st_fields s s.size (Nat.le_refl _)]
  have hle := st_le s s.size
  rw [List.drop_of_length_le (show s.data.toList.length ≤ s.size by omega), fields]
  unfold partsOf
  by_cases hlt : (stAt s s.size).1 < s.size
  · rw [if_pos hlt, if_neg]
    · simp
    · intro e
      have := congrArg List.length e
      simp at this
      omega
  · rw [if_neg hlt, if_pos]
    · simp
    · rw [show s.size - (stAt s s.size).1 = 0 by omega, List.take_zero]

/-- Parts are not empty and have no /. -/
theorem fields_good : ∀ (r cur : List UInt8), (47 : UInt8) ∉ cur → ∀ p ∈ fields cur r, p ≠ [] ∧ (47 : UInt8) ∉ p
  | [], cur, hc, p, hp => by
    unfold fields at hp
    split at hp
    · simp at hp
    · rename_i hne
      simp at hp; subst hp; exact ⟨hne, hc⟩
  | c :: r, cur, hc, p, hp => by
    unfold fields at hp
    split at hp
    · split at hp
      · exact fields_good r [] (by simp) p hp
      · rename_i hne
        rcases List.mem_cons.1 hp with rfl | hp
        · exact ⟨hne, hc⟩
        · exact fields_good r [] (by simp) p hp
    · rename_i h47
      exact fields_good r _ (by simp only [List.mem_append, List.mem_singleton, not_or]; exact ⟨hc, fun e => h47 e.symm⟩) p hp

/-- All parts, a / between. -/
def joinL : List (List UInt8) → List UInt8
  | [] => []
  | [a] => a
  | a :: b :: r => a ++ 47 :: joinL (b :: r)
theorem joinL_cons {a : List UInt8} {r : List (List UInt8)} (h : r ≠ []) : joinL (a :: r) = a ++ 47 :: joinL r := by
  cases r with
  | nil => exact absurd rfl h
  | cons b r => rfl

def endsSl (r : List UInt8) : Bool := r.getLast? == some 47
def tailL (d : Bool) : List UInt8 := if d then [47] else []

theorem endsSl_cons {c : UInt8} {r : List UInt8} (h : r ≠ []) : endsSl (c :: r) = endsSl r := by
  unfold endsSl
  cases r with
  | nil => exact absurd rfl h
  | cons b r => rfl

theorem fields_sub : ∀ (r cur : List UInt8), fields cur r ≠ [] → (joinL (fields cur r) ++ tailL (endsSl r)).Sublist (cur ++ r)
  | [], cur, h => by
    unfold fields at h ⊢
    split at h
    · exact absurd rfl h
    · rename_i hne
      rw [if_neg hne]
      simp [joinL, endsSl, tailL]
  | c :: r, cur, h => by
    unfold fields at h ⊢
    by_cases hc : c = 47
    · rw [if_pos hc] at h ⊢
      by_cases hcur : cur = []
      · rw [if_pos hcur] at h ⊢
        have hr : r ≠ [] := by
          rintro rfl
          simp [fields] at h
        rw [endsSl_cons hr, hcur]
        exact (fields_sub r [] h).trans (List.sublist_cons_self _ _)
      · rw [if_neg hcur] at h ⊢
        subst hc
        by_cases hf : fields [] r = []
        · rw [hf]
          simp only [joinL]
          refine List.Sublist.append (List.Sublist.refl _) ?_
          unfold tailL
          split
          · exact List.Sublist.cons_cons _ (List.nil_sublist _)
          · exact List.nil_sublist _
        · have hr : r ≠ [] := by
            rintro rfl
            simp [fields] at hf
          rw [joinL_cons hf, endsSl_cons hr, List.append_assoc]
          refine List.Sublist.append (List.Sublist.refl _) ?_
          exact List.Sublist.cons_cons _ (fields_sub r [] hf)
    · rw [if_neg hc] at h ⊢
      by_cases hr : r = []
      · subst hr
        have := fields_sub [] (cur ++ [c]) h
        have e : endsSl [c] = false := by unfold endsSl; simpa using hc
        rw [e]
        simpa [endsSl] using this
      · rw [endsSl_cons hr]
        have := fields_sub r (cur ++ [c]) h
        simpa using this

theorem fields_part : ∀ (p cur r : List UInt8), (47 : UInt8) ∉ p → fields cur (p ++ r) = fields (cur ++ p) r
  | [], cur, r, _ => by simp
  | c :: p, cur, r, h => by
    have hc : c ≠ 47 := fun e => h (by simp [e])
    rw [List.cons_append, fields, if_neg hc, fields_part p _ r (fun hm => h (List.mem_cons_of_mem _ hm))]
    simp

theorem fields_join (d : Bool) : ∀ (ps : List (List UInt8)), (∀ p ∈ ps, p ≠ [] ∧ (47 : UInt8) ∉ p) → fields [] (joinL ps ++ (if ps = [] then [] else tailL d)) = ps
  | [], _ => rfl
  | [a], h => by
    have ha := h a (by simp)
    simp only [joinL]
    rw [if_neg (by simp), fields_part a [] _ ha.2]
    cases d
    · simp [tailL, fields, ha.1]
    · simp [tailL, fields, ha.1]
  | a :: b :: r, h => by
    have ha := h a (by simp)
    have IH := fields_join d (b :: r) (fun p hp => h p (List.mem_cons_of_mem _ hp))
    rw [joinL_cons (by simp), List.append_assoc, fields_part a [] _ ha.2, List.nil_append, List.cons_append, fields, if_pos rfl, if_neg ha.1, if_neg (by simp)]
    rw [if_neg (by simp)] at IH
    rw [IH]

/-- A path's text. -/
def showL (a d : Bool) (ps : List (List UInt8)) : List UInt8 := tailL a ++ (joinL ps ++ (if ps = [] then [] else tailL d))
def showB (a d : Bool) (l : List ByteArray) : ByteArray := ⟨(showL a d (l.map (·.data.toList))).toArray⟩
theorem showB_data (a d : Bool) (l : List ByteArray) : (showB a d l).data.toList = showL a d (l.map (·.data.toList)) := rfl

theorem fields_show (a d : Bool) (ps : List (List UInt8)) (h : ∀ p ∈ ps, p ≠ [] ∧ (47 : UInt8) ∉ p) : fields [] (showL a d ps) = ps := by
  unfold showL
  cases a
  · exact fields_join d ps h
  · show fields [] (47 :: _) = ps
    rw [fields, if_pos rfl, if_pos rfl]
    exact fields_join d ps h

def hasLong (l : List ByteArray) : Bool := l.any fun x => decide (32 < x.size)
def hasZero (s : ByteArray) : Bool := s.data.toList.contains 0
/-- What Parse tells. -/
def pE (s : ByteArray) : Int := if s.size = 0 then 2 else if 256 < s.size then 63 else if hasZero s then 22 else if hasLong (partsOf s) then 63 else 0
def pL (s : ByteArray) : List ByteArray := if pE s = 0 then partsOf s else []
def pA (s : ByteArray) : Bool := if pE s = 0 then byteAt s 0 == 47 else false
def pD (s : ByteArray) : Bool := if pE s = 0 then byteAt s (s.size - 1) == 47 && decide (0 < (partsOf s).length) else false

theorem pE_ok {s : ByteArray} (h : pE s = 0) : s.size ≠ 0 ∧ s.size ≤ 256 ∧ hasZero s = false ∧ hasLong (partsOf s) = false := by
  unfold pE at h
  split at h
  · omega
  · split at h
    · omega
    · split at h
      · omega
      · split at h
        · omega
        · refine ⟨by assumption, by omega, by simp_all, by simp_all⟩
theorem pE_mk {s : ByteArray} (h : s.size ≠ 0 ∧ s.size ≤ 256 ∧ hasZero s = false ∧ hasLong (partsOf s) = false) : pE s = 0 := by
  unfold pE
  rw [if_neg h.1, if_neg (by omega), h.2.2.1, h.2.2.2]; rfl

theorem map_bytes_inj {l m : List ByteArray} (h : l.map (·.data.toList) = m.map (·.data.toList)) : l = m := by
  induction l generalizing m with
  | nil => cases m with
    | nil => rfl
    | cons _ _ => simp at h
  | cons x l ih => cases m with
    | nil => simp at h
    | cons y m =>
      simp only [List.map_cons, List.cons.injEq] at h
      rw [bytes_eq h.1, ih h.2]

theorem fields_none : ∀ (r : List UInt8), fields [] r = [] → ∀ c ∈ r, c = 47
  | [], _, c, hc => by simp at hc
  | x :: r, h, c, hc => by
    unfold fields at h
    by_cases hx : x = 47
    · rw [if_pos hx, if_pos rfl] at h
      rcases List.mem_cons.1 hc with rfl | hc
      · exact hx
      · exact fields_none r h c hc
    · rw [if_neg hx] at h
      have : ∀ (r cur : List UInt8), cur ≠ [] → fields cur r ≠ [] := by
        intro r
        induction r with
        | nil => intro cur hne; simp [fields, hne]
        | cons y r ih =>
          intro cur hne
          unfold fields
          split
          · first | (rw [if_neg hne]; simp) | simp
          · exact ih _ (by simp)
      exact absurd h (this r _ (by simp))

theorem byte_first {s : ByteArray} (x : UInt8) (r : List UInt8) (h : s.data.toList = x :: r) : byteAt s 0 = x := by unfold byteAt; rw [h]; rfl
theorem byte_last {s : ByteArray} (h : s.size ≠ 0) : (byteAt s (s.size - 1) == 47) = endsSl s.data.toList := by
  have hs := size_list s
  unfold byteAt endsSl
  rw [List.getLast?_eq_getElem?, hs, List.getD_eq_getElem?_getD, List.getElem?_eq_getElem (show s.size - 1 < s.data.toList.length by omega), Option.getD_some]
  rfl

theorem joinL_first : ∀ (ps : List (List UInt8)), ps ≠ [] → (∀ p ∈ ps, p ≠ [] ∧ (47 : UInt8) ∉ p) → ∃ x r, joinL ps = x :: r ∧ x ≠ 47
  | [], h, _ => absurd rfl h
  | a :: r, _, h => by
    obtain ⟨hne, h47⟩ := h a (by simp)
    cases a with
    | nil => exact absurd rfl hne
    | cons x a =>
      have hx : x ≠ 47 := fun e => h47 (by simp [e])
      cases r with
      | nil => exact ⟨x, a, rfl, hx⟩
      | cons b r => exact ⟨x, _, rfl, hx⟩
theorem joinL_last : ∀ (ps : List (List UInt8)), ps ≠ [] → (∀ p ∈ ps, p ≠ [] ∧ (47 : UInt8) ∉ p) → endsSl (joinL ps) = false ∧ joinL ps ≠ []
  | [], h, _ => absurd rfl h
  | [a], _, h => by
    obtain ⟨hne, h47⟩ := h a (by simp)
    refine ⟨?_, hne⟩
    unfold endsSl joinL
    rw [beq_eq_false_iff_ne]
    intro e
    exact h47 (List.mem_of_getLast? e)
  | a :: b :: r, _, h => by
    obtain ⟨h1, h2⟩ := joinL_last (b :: r) (by simp) (fun p hp => h p (List.mem_cons_of_mem _ hp))
    rw [joinL_cons (by simp)]
    refine ⟨?_, by simp⟩
    rw [← h1]
    unfold endsSl
    rw [List.getLast?_append, List.getLast?_cons]
    cases hg : (joinL (b :: r)).getLast? with
    | none => exact absurd (List.getLast?_eq_none_iff.1 hg) h2
    | some v => simp

theorem show_again {s : ByteArray} (h : pE s = 0) : pE (showB (pA s) (pD s) (pL s)) = 0 ∧ pA (showB (pA s) (pD s) (pL s)) = pA s ∧ pD (showB (pA s) (pD s) (pL s)) = pD s ∧ pL (showB (pA s) (pD s) (pL s)) = pL s := by
  obtain ⟨h1, h2, h3, h4⟩ := pE_ok h
  have hs := size_list s
  have hA : pA s = (byteAt s 0 == 47) := by unfold pA; rw [if_pos h]
  have hL : pL s = partsOf s := by unfold pL; rw [if_pos h]
  have hD : pD s = (byteAt s (s.size - 1) == 47 && decide (0 < (partsOf s).length)) := by unfold pD; rw [if_pos h]
  have hgood : ∀ p ∈ fields [] s.data.toList, p ≠ [] ∧ (47 : UInt8) ∉ p := fields_good _ [] (by simp)
  have hmap : (pL s).map (·.data.toList) = fields [] s.data.toList := by rw [hL, parts_fields]
  obtain ⟨ps, hps⟩ : ∃ ps, fields [] s.data.toList = ps := ⟨_, rfl⟩
  obtain ⟨t, ht⟩ : ∃ t, showB (pA s) (pD s) (pL s) = t := ⟨_, rfl⟩
  have hdata : t.data.toList = showL (pA s) (pD s) ps := by rw [← ht, showB_data, hmap, hps]
  rw [hps] at hgood hmap
  have hparts : partsOf t = pL s := by
    refine map_bytes_inj ?_
    rw [parts_fields, hdata, hmap, fields_show _ _ _ hgood]
  obtain ⟨x, r, hx⟩ : ∃ x r, s.data.toList = x :: r := by
    cases hd : s.data.toList with
    | nil => rw [hd] at hs; simp at hs; omega
    | cons x r => exact ⟨x, r, rfl⟩
  have hfirst := byte_first x r hx
  have hlen0 : (partsOf s).length = ps.length := by
    have := congrArg List.length hmap
    rw [hL] at this
    simpa using this
  -- the text that is shown lies in the text
  have hsub : (showL (pA s) (pD s) ps).Sublist s.data.toList := by
    by_cases hnil : ps = []
    · have hall := fields_none _ (hps.trans hnil)
      have h47 : x = 47 := hall x (by rw [hx]; simp)
      have e : pA s = true := by rw [hA, hfirst, h47]; rfl
      rw [e, hnil, hx, h47]
      simp [showL, tailL, joinL]
    · have hd : pD s = endsSl s.data.toList := by
        rw [hD, byte_last h1, hlen0]
        have : 0 < ps.length := List.length_pos_iff.2 hnil
        simp [this]
      unfold showL
      rw [if_neg hnil, hd]
      have hf : fields [] s.data.toList ≠ [] := by rw [hps]; exact hnil
      by_cases h47 : x = 47
      · have e : pA s = true := by rw [hA, hfirst, h47]; rfl
        have hps' : fields [] r = ps := by
          rw [← hps, hx, fields, if_pos h47, if_pos rfl]
        have hr : r ≠ [] := by
          rintro rfl
          simp [fields] at hps'
          exact hnil hps'
        have := fields_sub r [] (by rw [hps']; exact hnil)
        rw [e, hx, endsSl_cons hr, ← hps', h47]
        exact List.Sublist.cons_cons _ this
      · have e : pA s = false := by rw [hA, hfirst]; simpa using h47
        have := fields_sub s.data.toList [] hf
        rw [e]
        rw [hps] at this
        exact this
  have hts : t.size = (showL (pA s) (pD s) ps).length := by rw [← size_list, hdata]
  have hle : t.size ≤ s.size := by rw [hts, ← hs]; exact hsub.length_le
  have hpos : t.size ≠ 0 := by
    rw [hts]
    by_cases hnil : ps = []
    · have hall := fields_none _ (hps.trans hnil)
      have h47 : x = 47 := hall x (by rw [hx]; simp)
      have e : pA s = true := by rw [hA, hfirst, h47]; rfl
      rw [e]
      simp [showL, tailL]
    · obtain ⟨y, q, hy, _⟩ := joinL_first ps hnil hgood
      unfold showL
      rw [hy]
      simp
  have hz : hasZero t = false := by
    unfold hasZero
    rw [hdata]
    cases hc : (showL (pA s) (pD s) ps).contains 0 with
    | false => rfl
    | true =>
      have hm : (0 : UInt8) ∈ s.data.toList := hsub.mem (by simpa using hc)
      unfold hasZero at h3
      have : s.data.toList.contains 0 = true := by simpa using hm
      rw [this] at h3
      cases h3
  have hE : pE t = 0 := pE_mk ⟨hpos, by omega, hz, by rw [hparts, hL]; exact h4⟩
  rw [ht]
  refine ⟨hE, ?_, ?_, ?_⟩
  · unfold pA
    rw [if_pos hE]
    show (byteAt t 0 == 47) = pA s
    cases hpa : pA s with
    | true =>
      have := byte_first 47 (joinL ps ++ (if ps = [] then [] else tailL (pD s))) (s := t) (by rw [hdata, hpa]; rfl)
      rw [this]; rfl
    | false =>
      by_cases hnil : ps = []
      · have hall := fields_none _ (hps.trans hnil)
        have h47 : x = 47 := hall x (by rw [hx]; simp)
        rw [hA, hfirst, h47] at hpa
        cases hpa
      · obtain ⟨y, q, hy, hne⟩ := joinL_first ps hnil hgood
        have := byte_first y (q ++ (if ps = [] then [] else tailL (pD s))) (s := t) (by rw [hdata, hpa]; unfold showL; rw [hy]; rfl)
        rw [this]
        simpa using hne
  · have hDt : pD t = (byteAt t (t.size - 1) == 47 && decide (0 < (partsOf t).length)) := by unfold pD; rw [if_pos hE]
    rw [hDt, byte_last hpos, hparts, hL, hlen0, hdata]
    by_cases hnil : ps = []
    · rw [hD, hlen0, hnil]; simp
    · have hp : 0 < ps.length := List.length_pos_iff.2 hnil
      obtain ⟨h5, h6⟩ := joinL_last ps hnil hgood
      have key : ∀ d, endsSl (showL (pA s) d ps) = d := by
        intro d
        have e : endsSl (showL (pA s) d ps) = endsSl (joinL ps ++ tailL d) := by
          unfold showL endsSl
          rw [if_neg hnil, List.getLast?_append]
          cases hg : (joinL ps ++ tailL d).getLast? with
          | none => rw [List.getLast?_eq_none_iff] at hg; exact absurd (List.append_eq_nil_iff.1 hg).1 h6
          | some v => simp
        rw [e]
        cases d with
        | false => simpa [tailL] using h5
        | true => simp [tailL, endsSl]
      rw [key]
      simp [hp]
  · unfold pL
    rw [if_pos hE, hparts]
    show pL s = _
    unfold pL
    rfl

end Go.Proofs.Ytidcfbjefemhdaa
