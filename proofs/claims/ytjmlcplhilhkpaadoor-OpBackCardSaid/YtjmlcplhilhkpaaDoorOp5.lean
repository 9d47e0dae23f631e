/- The document's own answers for law 07: Name. -/
import Derived.Test.YtjmlcplhilhkpaaDoorOp2
namespace Go.Proofs.YtjmlcplhilhkpaaDoor
open Go.RowKit

/-- The instructions' names. -/
def nameBs : List ByteArray := [⟨#[115, 101, 108, 102]⟩, ⟨#[110, 105, 108]⟩, ⟨#[116, 114, 117, 101]⟩, ⟨#[102, 97, 108, 115, 101]⟩, ⟨#[108, 105, 116]⟩, ⟨#[116, 101, 109, 112]⟩, ⟨#[115, 101, 116]⟩, ⟨#[118, 97, 114]⟩, ⟨#[112, 117, 116]⟩, ⟨#[112, 111, 112]⟩, ⟨#[100, 117, 112]⟩, ⟨#[115, 101, 110, 100]⟩, ⟨#[115, 117, 112, 101, 114]⟩, ⟨#[106, 117, 109, 112]⟩, ⟨#[101, 108, 115, 101]⟩, ⟨#[106, 111, 105, 110]⟩, ⟨#[98, 108, 111, 99, 107]⟩, ⟨#[97, 110, 115, 119, 101, 114]⟩, ⟨#[109, 101]⟩, ⟨#[104, 111, 109, 101]⟩, ⟨#[99, 108, 97, 115, 115]⟩]
def nameB (c : Nat) : ByteArray := nameBs.getD c ⟨#[]⟩
set_option maxRecDepth 100000 in
set_option maxHeartbeats 4000000 in
theorem rname_c (c : Nat) (w : World) (hm : c < 256) :
    Calls Tryd.prog 19 #[.int .u8 (c : Nat)] w (fun e w' => e = .returned (.string (nameB c)) ∧ Grew w w') := by
  rcases Nat.lt_or_ge c 21 with hc | hc
  · rcases (by omega : c = 0 ∨ c = 1 ∨ c = 2 ∨ c = 3 ∨ c = 4 ∨ c = 5 ∨ c = 6 ∨ c = 7 ∨ c = 8 ∨ c = 9 ∨ c = 10 ∨ c = 11 ∨ c = 12 ∨ c = 13 ∨ c = 14 ∨ c = 15 ∨ c = 16 ∨ c = 17 ∨ c = 18 ∨ c = 19 ∨ c = 20) with rfl | rfl | rfl | rfl | rfl | rfl | rfl | rfl | rfl | rfl | rfl | rfl | rfl | rfl | rfl | rfl | rfl | rfl | rfl | rfl | rfl
    all_goals
      go_enter Tryd.func19, Tryd.ntmps19
      go_wp2_with fail
      go_ret
      exact ⟨rfl, (Grew.refl _).alloc _⟩
  · have HN : Hid (nameB c = ⟨#[]⟩) := hid (by
      unfold nameB
      rw [List.getD_eq_getElem?_getD, List.getElem?_eq_none (by simpa [nameBs] using hc)]
      rfl)
    go_enter Tryd.func19, Tryd.ntmps19
    go_wp2_with fail
    go_ret
    exact ⟨by rw [HN.out]; rfl, (Grew.refl _).alloc _⟩
end Go.Proofs.YtjmlcplhilhkpaaDoor
