/- All directions, as the program lists them; sorted. -/
import Derived.Test.YtgbkfmjkemkajabDSR
namespace Go.Proofs.Ytgbkfmjkemkajab
open Go.RowKit

/-- The first j places, as they come. -/
def genL (k : Nat) : Nat → List (Int × Int)
  | 0 => []
  | j + 1 => if okD (cand k j).1 (cand k j).2 then genL k j ++ [cand k j] else genL k j

theorem genL_no {k j : Nat} (h : okD (cand k j).1 (cand k j).2 = false) : genL k (j + 1) = genL k j := by
  rw [genL, if_neg (by rw [h]; decide)]
theorem genL_yes {k j : Nat} (h : okD (cand k j).1 (cand k j).2 = true) : genL k (j + 1) = genL k j ++ [cand k j] := by
  rw [genL, if_pos h]
theorem genL_zero (k : Nat) : genL k 0 = [] := rfl

theorem insR_perm (d : Int × Int) : ∀ l : List (Int × Int), (insR d l).Perm (d :: l)
  | [] => List.Perm.refl _
  | a :: l => by
    unfold insR
    split
    · exact ((insR_perm d l).cons a).trans (List.Perm.swap d a l)
    · exact List.Perm.refl _
theorem allR_perm (k : Nat) : ∀ j, (allR k j).Perm (genL k j)
  | 0 => List.Perm.refl _
  | j + 1 => by
    unfold allR genL
    split
    · refine (insR_perm _ _).trans (((allR_perm k j).cons _).trans ?_)
      exact (List.perm_append_comm (l₁ := [cand k j]) (l₂ := genL k j))
    · exact allR_perm k j
theorem allL_perm (k j : Nat) : (allL k j).Perm (genL k j) := (List.reverse_perm _).trans (allR_perm k j)
theorem genL_len (k j : Nat) : (genL k j).length ≤ j := by
  rw [← (allL_perm k j).length_eq]
  exact allL_len k j
theorem genL_ok (k j : Nat) (d : Int × Int) (h : d ∈ genL k j) : okD d.1 d.2 = true := allL_ok k j d ((allL_perm k j).mem_iff.2 h)

theorem cmp_cross {a b : Int × Int} (ha : okD a.1 a.2 = true) (hb : okD b.1 b.2 = true) (h : cmpS a b = -1) : 0 < crossS a b := by
  rw [cmpS_ok ha hb] at h
  by_cases c : 0 < crossS a b
  · exact c
  · rw [if_neg c] at h
    split at h <;> simp at h

theorem rises_pair : ∀ {L : List (Int × Int)}, risesB L = true → (∀ d ∈ L, okD d.1 d.2 = true) → L.Pairwise fun a b => 0 < crossS a b
  | [], _, _ => List.Pairwise.nil
  | [a], _, _ => by simp
  | a :: b :: l, h, hok => by
    unfold risesB at h
    simp only [Bool.and_eq_true, beq_iff_eq] at h
    have ih := rises_pair h.2 (fun d hd => hok d (List.mem_cons_of_mem _ hd))
    have hab := cmp_cross (hok a (by simp)) (hok b (by simp)) h.1.1
    refine List.Pairwise.cons (fun x hx => ?_) ih
    rcases List.mem_cons.1 hx with rfl | hx2
    · exact hab
    · have hbx := (List.pairwise_cons.1 ih).1 x hx2
      have := cross_on (hok a (by simp)) (hok b (by simp)) (hok x (List.mem_cons_of_mem _ hx)) (by omega) (by omega)
      omega

/-- A list of directions as an array of such. -/
def arrD (L : List (Int × Int)) (h : ∀ d ∈ L, okD d.1 d.2 = true) : Array OkDir := (L.pmap Subtype.mk h).toArray
theorem arrD_list (L : List (Int × Int)) (h : ∀ d ∈ L, okD d.1 d.2 = true) : (arrD L h).toList.map Subtype.val = L := by
  unfold arrD
  simp [List.map_pmap]
theorem arrD_size (L : List (Int × Int)) (h : ∀ d ∈ L, okD d.1 d.2 = true) : (arrD L h).size = L.length := by
  unfold arrD
  simp
section
variable [Inhabited OkDir]

theorem arrD_get {L : List (Int × Int)} {h : ∀ d ∈ L, okD d.1 d.2 = true} {i : Nat} (hi : i < L.length) : ((arrD L h)[i]!).1 = L[i] := by
  rw [getElem!_pos _ i (by rw [arrD_size]; exact hi)]
  unfold arrD
  simp

theorem out_default (d : Array OkDir) {i : Nat} (h : d.size ≤ i) : d[i]! = default := by
  simp [Nat.not_lt.2 h]

theorem sorted_one {L M : List (Int × Int)} {hL : ∀ d ∈ L, okD d.1 d.2 = true} {d' : Array OkDir} (hM : M.Perm L) (hp : M.Pairwise fun a b => 0 < crossS a b)
    (h1 : Sort.PermIn 0 (arrD L hL).size (arrD L hL) d') (h2 : Sort.SortedIn (ltOf cfD) 0 (arrD L hL).size d') : d'.toList.map Subtype.val = M := by
  have hM2 : ∀ d ∈ M, okD d.1 d.2 = true := fun d hd => hL d (hM.mem_iff.1 hd)
  have e1 := Sort.sorted_unique_holds swoD allD_one _ _ h1 h2
  have hl : M.length = L.length := hM.length_eq
  have p1 : Sort.PermIn 0 (arrD L hL).size (arrD L hL) (arrD M hM2) := by
    refine ⟨by rw [arrD_size, arrD_size, hl], fun i hi => ?_, ?_⟩
    · rcases hi with hi | hi
      · omega
      · rw [out_default _ hi, out_default]
        rw [arrD_size] at hi ⊢
        omega
    · have a1 : (arrD M hM2).extract 0 (arrD L hL).size = arrD M hM2 := by
        rw [arrD_size, ← hl, ← arrD_size M hM2]
        exact Array.extract_size
      rw [a1, Array.extract_size]
      unfold arrD
      exact hM.pmap _
  have s1 : Sort.SortedIn (ltOf cfD) 0 (arrD L hL).size (arrD M hM2) := by
    intro i j _ hij hj
    rw [arrD_size, ← hl] at hj
    rw [ltD, decide_eq_false_iff_not, arrD_get hj, arrD_get (by omega), cross_swap]
    have := List.pairwise_iff_getElem.1 hp i j (by omega) hj hij
    omega
  have e2 := Sort.sorted_unique_holds swoD allD_one _ _ p1 s1
  rw [e1, ← e2]
  exact arrD_list M hM2

end

theorem sortAny {L M : List (Int × Int)} {w : World} {base g cap : Nat} (hL : ∀ d ∈ L, okD d.1 d.2 = true) (hs : L.length ≤ 1000) (hO : w.ownsRow base 31 2 (.slice (some ⟨g, 0, none⟩) L.length cap) L.length (flat2 L)) (hM : M.Perm L) (hp : M.Pairwise fun a b => 0 < crossS a b) :
    Calls Try.prog 9 #[.slice (some ⟨g, 0, none⟩) L.length cap, .func (.func 10) #[] #[]] w fun e w' =>
      e = .returned (.tuple #[]) ∧ w'.ownsRow base 31 2 (.slice (some ⟨g, 0, none⟩) L.length cap) M.length (flat2 M) ∧ w.grownBy w' (some g) := by
  have some_dir : Inhabited OkDir := ⟨⟨(1, 0), ok_one⟩⟩
  have hO2 : w.ownsRow base 31 2 (.slice (some ⟨g, 0, none⟩) (arrD L hL).size cap) (arrD L hL).size (flat2 ((arrD L hL).toList.map Subtype.val)) := by
    rw [arrD_list, arrD_size]
    exact hO
  have eg : ∀ args w, (callFunc 10 args).run Try.prog w = .ok (.enter 10 args) w := enters_of Try.func10 (by kernel_rfl) rfl
  have hcon := AnyQ.slices_SortFunc sortDir 2 Try.isAgg31 Try.sizeOf31 encD (fun _ => rfl) (fun x v hv => by simp [encD] at hv; rcases hv with rfl | rfl <;> rfl) cfD swoD 10 #[] g 0 cap (arrD L hL) w eg (cmpLays g 0 _ w) (holdsD hO2) ((hO.lt g rfl).2) (by rw [arrD_size]; omega)
  change Calls Try.prog 9 _ _ _ at hcon
  rw [arrD_size] at hcon
  refine hcon.mono ?_
  rintro e w' ⟨he, d', n, os, h1, h2, rfl⟩
  rw [← arrD_size L hL] at h1 h2
  have e1 := sorted_one hM hp h1 h2
  refine ⟨he, ?_, grownD d'⟩
  have hO3 := ownsD (n := n) (os := os) h1.1 hO2
  rw [e1, arrD_size, ← hM.length_eq] at hO3
  rw [← hM.length_eq]
  exact hO3
end Go.Proofs.Ytgbkfmjkemkajab
