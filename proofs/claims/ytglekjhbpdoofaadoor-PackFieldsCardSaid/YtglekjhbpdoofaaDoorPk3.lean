/- The walks of package pack, reading: Text, Done, Ints. -/
import Derived.Test.YtglekjhbpdoofaaDoorPk2
import Derived.Lib.SlBytesConst
namespace Go.Proofs.YtglekjhbpdoofaaDoor
open Go.RowKit

theorem strB_nums (xs : List Nat) : strOfNums (xs.map (fun x : Nat => (x : Int))) = Pk.strB xs := by
  simp [strOfNums, Pk.strB]
theorem conv6 (A : Option Addr) (c : Nat) (xs : List Nat) (w : World) (h : NumsAt .u8 w w.heap.size A xs) : (convert 23 9 (.slice A xs.length c)).run Tryd.prog w = .ok (.string (Pk.strB xs)) w := by
  rw [← strB_nums]
  exact (bytesIn4 w A xs h).convert (by simp) c _ _ _ Tryd.underlying23 Tryd.underlying5 Tryd.underlying9

def RTextPost (w : World) (lo g : Nat) (r : List Nat × Pk.St) (e : Ending) (w' : World) : Prop :=
  e = .returned (.string (Pk.strB r.1)) ∧ RdAt w' lo g r.2 ∧ Kept (· = g) w w'
set_option maxRecDepth 100000 in
set_option maxHeartbeats 2000000 in
theorem rtext_c (lo g : Nat) (st : Pk.St) (m : Int) (w : World) (h : RdAt w lo g st) :
    Calls Tryd.prog 11 #[.pointer (some ⟨g, 0, none⟩), .int .i64 m] w (RTextPost w lo g (Pk.text st m)) := by
  have HI := hid (count_c lo g st m w h)
  have HT : Hid (Pk.text st m = match Pk.count st m with | (n, some r) => (r.take n.toNat, some (r.drop n.toNat)) | (_, none) => ([], none)) := hid rfl
  have HN := hid (fun (n : Int) (r : List Nat) => Pk.count_range (st := st) (m := m) (n := n) (r := r))
  have HZ := hid (show ∀ n, Pk.count st m = (n, none) → n = 0 by
    intro n hn
    rw [count_eq] at hn
    split at hn
    · simp at hn; exact hn.symm
    · unfold Pk.int at hn
      split at hn
      · simp at hn
      · simp at hn; exact hn.symm)
  generalize Pk.text st m = res at *
  generalize Pk.count st m = r at *
  obtain ⟨n, s⟩ := r
  clear h
  have HX : Hid (∃ k : Nat, n = (k : Int) ∧ k ≤ (Pk.rest s).length ∧ (s = none → k = 0) ∧ res = ((Pk.rest s).take k, s.map (·.drop k))) := hid (by
    cases s with
    | none =>
      obtain rfl := HZ.out n rfl
      exact ⟨0, rfl, Nat.zero_le _, fun _ => rfl, by rw [HT.out]; rfl⟩
    | some r =>
      have h := HN.out n r rfl
      refine ⟨n.toNat, by omega, ?_, (fun h => by cases h), by rw [HT.out]; rfl⟩
      simp only [Pk.rest, Option.getD_some]
      omega)
  clear HT HN HZ
  obtain ⟨k, rfl, hk, hs, hres⟩ := HX.out
  have HRes := hid hres
  have HS := hid hs
  clear hres hs HX
  go_enter Tryd.func11, Tryd.ntmps11
  go_wp2_with fail
  refine HI.out.mono ?_
  rintro e w1 ⟨rfl, hR, hK⟩
  have HK := hid hK
  have hlt := hR.lt
  obtain ⟨A, c, hB, hA, hlo, hc, hm⟩ := hR
  have c0 := hB.cell 0
  have f0 := hB.frozen 0
  simp only [List.getElem?_toArray, List.getElem?_cons_zero] at c0
  have HB := hid hB
  have HA := hid hA
  have HLO := hid hlo
  have HC := hid (And.intro hc hm)
  obtain ⟨xs, hxs⟩ : ∃ xs, xs = Pk.rest s := ⟨_, rfl⟩
  rw [← hxs] at c0 HB HA HC hk hA hc hB
  have hcv := conv6 A c (xs.take k) w1 (((NumsAt.of_bytes (hA.wide (Nat.le_of_lt hlt)))).take k)
  rw [List.length_take, Nat.min_eq_left hk] at hcv
  have hq1 : 0 ≤ (k : Int) := by omega
  have hq2 : (k : Int) ≤ xs.length := by omega
  have hq3 : (k : Int) ≤ c := by omega
  have HXS := hid hxs
  have HKL := hid hk
  clear hB hA hlo hc hm hK HI hxs hk
  rcases (by omega : k = c ∨ k < c) with hcap | hcap
  · obtain rfl := hcap
    go_wp2_with fail
    go_ret
    rw [HRes.out]
    have hs := RdAt.step HXS.out rfl HB.out HA.out HLO.out HC.out.1 HC.out.2 (Grew.refl _) k A (xs.length - k) 0 rfl (.inl ⟨rfl, rfl, rfl⟩) HKL.out
    exact ⟨by rw [HXS.out]; rfl, hs.1, HK.out.trans hs.2⟩
  · have t1 : ¬ k = c := by omega
    go_wp2_with fail
    go_ret
    rw [HRes.out]
    have hs := RdAt.step HXS.out rfl HB.out HA.out HLO.out HC.out.1 HC.out.2 (Grew.refl _) k (A.map (·.add k)) (xs.length - k) (c - k) rfl (.inr ⟨rfl, rfl⟩) HKL.out
    exact ⟨by rw [HXS.out]; rfl, hs.1, HK.out.trans hs.2⟩

def RDonePost (w : World) (st : Pk.St) (e : Ending) (w' : World) : Prop :=
  e = .returned (errVal (if st = some [] then 0 else 2)) ∧ w' = w
set_option maxRecDepth 100000 in
set_option maxHeartbeats 2000000 in
theorem rdone_c (lo g : Nat) (st : Pk.St) (w : World) (h : RdAt w lo g st) :
    Calls Tryd.prog 13 #[.pointer (some ⟨g, 0, none⟩)] w (RDonePost w st) := by
  obtain ⟨A, c, hB, _⟩ := h
  have c0 := hB.cell 0
  have c1 := hB.cell 1
  simp only [List.getElem?_toArray, List.getElem?_cons_zero, List.getElem?_cons_succ] at c0 c1
  clear hB
  cases st with
  | none =>
    simp only [Option.isNone_none] at c1
    go_enter Tryd.func13, Tryd.ntmps13
    go_wp2_with fail
    go_ret
    exact ⟨rfl, rfl⟩
  | some r =>
    simp only [Option.isNone_some] at c1
    simp only [Pk.rest, Option.getD_some] at c0
    cases r with
    | nil =>
      go_enter Tryd.func13, Tryd.ntmps13
      go_wp2_with fail
      go_ret
      exact ⟨rfl, rfl⟩
    | cons x r =>
      obtain ⟨n, hn⟩ : ∃ n, n = (x :: r).length := ⟨_, rfl⟩
      have t1 : (0 : Int) < n := by rw [hn]; simp only [List.length_cons]; omega
      rw [← hn] at c0
      clear hn
      have HE := hid (show errVal (if (some (x :: r) : Pk.St) = some [] then 0 else 2) = .iface 66 (.int .i64 2) by rw [if_neg (by simp)]; rfl)
      go_enter Tryd.func13, Tryd.ntmps13
      go_wp2_with fail
      go_ret
      exact ⟨by rw [HE.out]; rfl, rfl⟩
end Go.Proofs.YtglekjhbpdoofaaDoor
