/-
  Plain mathematics of a window, on: what is kept once all is pushed; in the end. No program, no walk.
-/
import Derived.Test.YtaambclpkghddaaDoorWindowMore
namespace Go.Window

/-- What is kept once so many are pushed. -/
def kepts (F : Nat) (T : List ByteArray) (k : Nat) : List (Nat × ByteArray) := (List.range k).map fun i => ((F + i) % 65536, T.getD i ⟨#[]⟩)
theorem kepts_succ (F : Nat) (T : List ByteArray) (k : Nat) : kepts F T (k + 1) = kepts F T k ++ [((F + k) % 65536, T.getD k ⟨#[]⟩)] := by
  simp [kepts, List.range_succ]
theorem push_keeps {F k : Nat} {T : List ByteArray} (hk : k < T.length) (hT : T.length ≤ 32) (hs : T[k].size ≤ 20000) :
    (Sn.mk ((F + k) % 65536) (kepts F T k)).push T[k] = (⟨(F + (k + 1)) % 65536, kepts F T (k + 1)⟩, (F + k) % 65536, 0) := by
  have hf : (Sn.mk ((F + k) % 65536) (kepts F T k)).full = false := by
    cases k with
    | zero => rfl
    | succ k =>
      unfold Sn.full kepts
      rw [List.range_succ_eq_map]
      simp only [List.map_cons]
      rw [dist_on F 0 (k + 1) (by omega) (by omega), decide_eq_false_iff_not]
      omega
  unfold Sn.push
  rw [if_neg (by omega), hf, kepts_succ]
  have hg : T.getD k ⟨#[]⟩ = T[k] := by rw [List.getD_eq_getElem?_getD, List.getElem?_eq_getElem hk]; rfl
  rw [hg]
  have hn : ((F + k) % 65536 + 1) % 65536 = (F + (k + 1)) % 65536 := by omega
  simp only [hn]
  rfl
theorem kepts_keeps (F : Nat) (T : List ByteArray) : Keeps F T ⟨(F + T.length) % 65536, kepts F T T.length⟩ (List.range T.length) :=
  ⟨rfl, rfl, List.pairwise_lt_range, fun _ h => List.mem_range.1 h⟩
/-- Where all are there nothing is kept, by the receiver's own answer. -/
theorem ack_none {F : Nat} {T : List ByteArray} {s : Sn} {I : List Nat} {r : Rc} {d : Nat} (hk : Keeps F T s I) (h : Fits F T r d) (hT : T.length ≤ 32) (ha : ∀ i, i < T.length → Got r d i) :
    (s.ack (r.due : Int) (r.more.map Int.ofNat)).kept = [] := by
  obtain ⟨J, hJ, hm⟩ := ack_keeps hk h hT
  have : J = [] := by
    rw [List.eq_nil_iff_forall_not_mem]
    intro i hi
    have := (hm i).1 hi
    exact this.2 (ha i (hk.lt i this.1))
  rw [hJ.kept, this]
  rfl
/-- What covers all: kept, or there. -/
def Covers (T : List ByteArray) (r : Rc) (d : Nat) (I : List Nat) : Prop := ∀ i, i < T.length → i ∈ I ∨ Got r d i
theorem covers_new (F : Nat) (T : List ByteArray) : Covers T (rcNew F) 0 (List.range T.length) := fun _ h => .inl (List.mem_range.2 h)
theorem Covers.take {T : List ByteArray} {r r' : Rc} {d d' : Nat} {I : List Nat} (h : Covers T r d I) (hg : ∀ j, Got r d j → Got r' d' j) : Covers T r' d' I := fun i hi => (h i hi).imp id (hg i)
theorem Covers.ack {T : List ByteArray} {r : Rc} {d : Nat} {I J : List Nat} (h : Covers T r d I) (hm : ∀ i, i ∈ J ↔ i ∈ I ∧ ¬ Got r d i) : Covers T r d J := fun i hi => by
  by_cases hg : Got r d i
  · exact .inr hg
  · rcases h i hi with k | k
    · exact .inl ((hm i).2 ⟨k, hg⟩)
    · exact .inr k
end Go.Window
