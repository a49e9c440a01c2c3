/- Package sparse: a write, a cut, whatever they are; and what stays of other memory. -/
import Derived.Test.YtigkelcmiknfjaaSWrt
import Derived.Test.YtigkelcmiknfjaaSCut3
import Derived.Test.YtigkelcmiknfjaaSSmall
namespace Go.Proofs.Ytigkelcmiknfjaa
open Go Go.RowKit Go.Maps

/-- A slice that reads as a list, in memory that is not the file's. -/
def AtC (F : Nat → Prop) (w : World) (p : Option Addr) (l : List Value) : Prop :=
  l = [] ∨ ∃ b off, p = some ⟨b, off, none⟩ ∧ ¬ F b ∧ b < w.heap.size ∧ ∀ (j : Nat) v, l[j]? = some v → w.cell? ⟨b, off + j, none⟩ = some v
section
variable {F F' : Nat → Prop} {w w' : World} {p : Option Addr} {l : List Value}
theorem AtC.goes (h : AtC F w p l) (g : Goes F F' w w') : AtC F' w' p l := by
  rcases h with h | ⟨b, off, e, hn, hb, hc⟩
  · exact .inl h
  · refine .inr ⟨b, off, e, fun h7 => ?_, Nat.lt_of_lt_of_le hb g.foot.size, fun j v hj => (g.cell (a := ⟨b, off + j, none⟩) hb hn).trans (hc j v hj)⟩
    rcases g.new b h7 with h8 | h8
    · exact hn h8
    · omega
theorem AtC.on (h : AtC F w p l) (hb : Below w.heap.size w w') : AtC F w' p l := h.goes (Goes.of_below hb)
theorem AtC.at (h : AtC F w p l) : At w p l := by
  rcases h with h | ⟨b, off, e, _, hb, hc⟩
  · exact .inl h
  · exact .inr ⟨b, off, e, Nat.zero_le _, hb, hc⟩
/-- A row of its own is not the file's. -/
theorem FileAt.atC {fb sz hi : Nat} {C : Nat → UInt8} {h : Nat → Bool} {e : TypeId} {v : Value} {s : List Value} (f : FileAt w fb F sz C h) (ho : OwnV hi e w v s) (h1 : e ≠ 51) (h2 : e ≠ 63) : ∃ p cap, v = .slice p s.length cap ∧ AtC F w p s ∧ s.length ≤ cap := by
  obtain ⟨p, cap, hv, hat, hc⟩ := ownV_at ho
  refine ⟨p, cap, hv, ?_, hc⟩
  rcases hat with h0 | ⟨b, off, e1, _, hb, hcell⟩
  · exact .inl h0
  · refine .inr ⟨b, off, e1, fun hF => ?_, hb, hcell⟩
    rcases ho.2 with ⟨h0, _⟩ | ⟨g, cap', cur, h0, _, hg, _⟩
    · rw [h0] at hv; rw [e1] at hv; cases hv
    · rw [h0, e1] at hv
      cases hv
      rcases f.kind hF hg with h7 | h7
      · exact h1 h7
      · exact h2 h7
theorem atC_new {base : Nat} (h : AtF base w p l) (hF : ∀ x, F x → x < base) : AtC F w p l := by
  rcases h with h | ⟨b, off, e, hbs, hb, hc⟩
  · exact .inl h
  · exact .inr ⟨b, off, e, fun h7 => by have := hF b h7; omega, hb, hc⟩
end

/-- How many blocks there are behind a write. -/
theorem cntF_span (h : Nat → Bool) (k0 K : Nat) : ∀ n, cntF n (fun k => h k || decide (k0 ≤ k ∧ k < K)) = cntF n h + cntN h k0 (min n K)
  | 0 => by simp [cntF, cntN]
  | n + 1 => by
    rw [cntF_succ, cntF_succ, cntF_span h k0 K n]
    by_cases hn : n < K
    · rw [show min (n + 1) K = min n K + 1 by omega, show min n K = n by omega]
      cases hh : h n
      · by_cases h7 : k0 ≤ n
        · rw [cntN_not h7 hh]; simp [h7, hn]; omega
        · have e : cntN h k0 (n + 1) = cntN h k0 n := by rw [cntN, if_neg fun h => h7 h.1]; rfl
          rw [e]; simp [h7]
      · rw [cntN_has hh]; simp; omega
    · rw [show min (n + 1) K = min n K by omega]
      simp [hn]
      omega
theorem layH_span {h : Nat → Bool} {o d : Nat} (hd : 0 < d) : layH h o d = fun k => h k || decide (o / 64 ≤ k ∧ k < (o + d + 63) / 64) := by
  funext k
  simp only [layH]
  congr 1
  rw [decide_eq_decide]
  omega
theorem layH_count {h : Nat → Bool} {o d : Nat} (hd : 0 < d) (hl : o + d ≤ 65536) : cntF 1024 (layH h o d) = cntF 1024 h + needF h o d := by
  rw [layH_span hd, cntF_span, show min 1024 ((o + d + 63) / 64) = (o + d + 63) / 64 by omega]
  have e : outOf o d = false := by simp [outOf]; omega
  unfold needF
  rw [e]
  simp

/-- A file's size, bytes, blocks. -/
structure St where
  sz : Nat
  C : Nat → UInt8
  h : Nat → Bool
def St.at (s : St) (w : World) (fb : Nat) (F : Nat → Prop) : Prop := FileAt w fb F s.sz s.C s.h ∧ s.sz ≤ 65536
theorem St.at.on {s : St} {w w' : World} {fb : Nat} {F : Nat → Prop} (h : s.at w fb F) (hb : Below w.heap.size w w') : s.at w' fb F := ⟨h.1.on hb, h.2⟩
def St.blocks (s : St) : Nat := cntF 1024 s.h
/-- Behind a write. -/
def St.wrote (s : St) (off : Int) (B : List UInt8) (room : Int) : St :=
  if wrF s.h off B.length room = 0 ∧ B ≠ [] then ⟨max s.sz (off.toNat + B.length), putC s.C off.toNat B B.length, layH s.h off.toNat B.length⟩ else s
def St.wroteN (s : St) (off : Int) (n : Nat) (room : Int) : Nat := if wrF s.h off n room = 0 then needF s.h off n else 0
theorem needF_zero (h : Nat → Bool) (off : Int) : needF h off 0 = 0 := by
  have e : outOf off 0 = true := by simp [outOf]
  unfold needF
  rw [e]; rfl
theorem needF_le (h : Nat → Bool) (off n : Int) : needF h off n ≤ 1024 := by
  unfold needF
  split
  · omega
  · rename_i e
    have := outOf_not (by simpa using e)
    have h2 := cntN_le h (off.toNat / 64) ((off.toNat + n.toNat + 63) / 64)
    omega
theorem St.wrote_blocks (s : St) (off : Int) (B : List UInt8) (room : Int) : (s.wrote off B room).blocks = s.blocks + s.wroteN off B.length room := by
  unfold St.wrote St.wroteN St.blocks
  by_cases h1 : wrF s.h off B.length room = 0
  · rw [if_pos h1]
    by_cases h2 : B = []
    · rw [if_neg (by simp [h2]), h2, List.length_nil]
      have := needF_zero s.h off
      simp only [Int.natCast_zero] at *
      rw [this, Nat.add_zero]
    · rw [if_pos ⟨h1, h2⟩]
      have hp : 0 < B.length := List.length_pos_iff.2 h2
      have h3 : ¬ off < 0 ∧ ¬ 65536 - (B.length : Int) < off := by
        unfold wrF at h1
        by_cases h4 : off < 0
        · rw [if_pos h4] at h1; cases h1
        · rw [if_neg h4] at h1
          by_cases h5 : 65536 - (B.length : Int) < off
          · rw [if_pos h5] at h1; cases h1
          · exact ⟨h4, h5⟩
      rw [layH_count hp (by omega), show ((off.toNat : Nat) : Int) = off by omega]
  · rw [if_neg h1, if_neg fun h => h1 h.1, Nat.add_zero]

theorem write_all (fb : Nat) (s : St) (F : Nat → Prop) (off room : Int) (p : Option Addr) (c : Nat) (B : List UInt8) (w : World) (f : s.at w fb F) (hoff : (Lit.int .i64 off).wf = true) (hB : B.length ≤ 1000000) (hc : B.length ≤ c) (hat : AtC F w p (bytesV B)) :
    Calls Try.prog 17 #[.pointer (some ⟨fb, 0, none⟩), .int .i64 off, .slice p B.length c, .int .i64 room] w fun e w' => e = .returned (.tuple #[.int .i64 (s.wroteN off B.length room : Nat), .int .i64 (wrF s.h off B.length room : Nat)]) ∧
      ∃ F', (s.wrote off B room).at w' fb F' ∧ Goes F F' w w' := by
  by_cases hbad : wrF s.h off B.length room ≠ 0 ∨ B.length = 0
  · refine (write_bad fb s.sz B.length c F s.C s.h off room _ p w f.1 hoff (by omega) rfl hbad).mono ?_
    rintro e w' ⟨rfl, rfl⟩
    have e1 : s.wrote off B room = s := if_neg fun h => by
      rcases hbad with h7 | h7
      · exact h7 h.1
      · exact h.2 (List.eq_nil_of_length_eq_zero h7)
    have e2 : s.wroteN off B.length room = 0 := by
      unfold St.wroteN
      split
      · rename_i h7
        rcases hbad with h8 | h8
        · exact absurd h7 h8
        · rw [h8]; exact needF_zero s.h off
      · rfl
    rw [e1, e2]
    exact ⟨rfl, F, f, .refl _ _⟩
  · have hw : wrF s.h off B.length room = 0 := by
      rcases Nat.eq_zero_or_pos (wrF s.h off B.length room) with h | h
      · exact h
      · exact absurd (.inl (by omega)) hbad
    have hp : 0 < B.length := by
      rcases Nat.eq_zero_or_pos B.length with h | h
      · exact absurd (.inr h) hbad
      · exact h
    have hne : B ≠ [] := fun e => by rw [e] at hp; simp at hp
    have h3 : ¬ off < 0 ∧ ¬ 65536 - (B.length : Int) < off ∧ ¬ room < needF s.h off B.length := by
      unfold wrF at hw
      by_cases h4 : off < 0
      · rw [if_pos h4] at hw; cases hw
      · rw [if_neg h4] at hw
        by_cases h5 : 65536 - (B.length : Int) < off
        · rw [if_pos h5] at hw; cases hw
        · rw [if_neg h5] at hw
          by_cases h6 : room < needF s.h off B.length
          · rw [if_pos h6] at hw; cases hw
          · exact ⟨h4, h5, h6⟩
    obtain ⟨b, so, rfl, hnF, hb, hcell⟩ := hat.resolve_left (by simpa using hne)
    have hz : ((off.toNat : Nat) : Int) = off := by omega
    have hd := write_do fb s.sz b so c off.toNat F s.C s.h room B w f.1 f.2 hb hnF hcell hp (by omega) hc (by rw [hz]; omega)
    rw [hz] at hd
    refine hd.mono ?_
    rintro e w' ⟨rfl, F', h1, h2⟩
    have e1 : s.wrote off B room = ⟨max s.sz (off.toNat + B.length), putC s.C off.toNat B B.length, layH s.h off.toNat B.length⟩ := if_pos ⟨hw, hne⟩
    have e2 : s.wroteN off B.length room = needF s.h off B.length := if_pos hw
    rw [e1, e2, hw]
    exact ⟨rfl, F', ⟨h1, by show max _ _ ≤ _; have := f.2; omega⟩, h2⟩

/-- Behind a cut. -/
def St.cut (s : St) (n : Int) : St := if cutE n = 0 then ⟨n.toNat, cutC s.C n.toNat, cutH s.h n.toNat⟩ else s
def St.cutN (s : St) (n : Int) : Int := (s.blocks : Int) - ((s.cut n).blocks : Int)
theorem trunc_all (fb : Nat) (s : St) (F : Nat → Prop) (n : Int) (w : World) (f : s.at w fb F) :
    Calls Try.prog 16 #[.pointer (some ⟨fb, 0, none⟩), .int .i64 n] w fun e w' => e = .returned (.tuple #[.int .i64 (s.cutN n), .int .i64 (cutE n : Nat)]) ∧ ∃ F', (s.cut n).at w' fb F' ∧ Goes F F' w w' := by
  by_cases he : cutE n = 0
  · have h3 : 0 ≤ n ∧ n ≤ 65536 := by
      unfold cutE at he
      by_cases h4 : n < 0
      · rw [if_pos h4] at he; cases he
      · rw [if_neg h4] at he
        by_cases h5 : 65536 < n
        · rw [if_pos h5] at he; cases he
        · omega
    have hd := trunc_do fb s.sz n.toNat F s.C s.h w f.1 (by omega)
    rw [show ((n.toNat : Nat) : Int) = n by omega] at hd
    refine hd.mono ?_
    rintro e w' ⟨rfl, F', h1, h2⟩
    have e1 : s.cut n = ⟨n.toNat, cutC s.C n.toNat, cutH s.h n.toNat⟩ := if_pos he
    refine ⟨?_, F', ?_, h2⟩
    · unfold St.cutN
      rw [e1, he]; rfl
    · rw [e1]; exact ⟨h1, by show n.toNat ≤ _; omega⟩
  · refine (trunc_bad fb n w he).mono ?_
    rintro e w' ⟨rfl, rfl⟩
    have e1 : s.cut n = s := if_neg he
    refine ⟨?_, F, ?_, .refl _ _⟩
    · unfold St.cutN
      rw [e1, Int.sub_self]
    · rw [e1]; exact f

end Go.Proofs.Ytigkelcmiknfjaa
