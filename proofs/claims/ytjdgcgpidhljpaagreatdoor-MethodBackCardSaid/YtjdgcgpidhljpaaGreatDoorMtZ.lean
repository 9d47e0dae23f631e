/- Stage 9: a method's memory is none of the boxes of strings and slices; two methods given in a drawn region. -/
import Derived.Test.YtjdgcgpidhljpaaGreatDoorMtX
import Derived.Test.YtjdgcgpidhljpaaGreatDoorMtO
namespace Go.Proofs.YtjdgcgpidhljpaaGreatDoor
open Go.RowKit

/-- A box whose first three cells are no integers. -/
theorem MethAt.box {w w' : World} {u : MV} {g : Nat} {t : TypeId} {s : ByteArray} {A B : Option Addr} {n c m d : Nat} (h : MethAt w u) (hb : Blk w g t #[.string s, .slice A n c, .slice B m d]) (hk : Kept (· = g) w w') : MethAt w' u := by
  have far : ∀ (ad : Addr) (k : IntKind) (x : Int), w.cell? ad = some (.int k x) → ad.block ≠ g := by
    intro ad k x hc e
    obtain ⟨b, o, z⟩ := ad
    simp only at e
    subst e
    unfold Blk at hb
    rcases o with _ | _ | _ | o <;> simp [World.cell?, hb] at hc
  refine ⟨h.sel, ⟨h.lits.1, fun hl => ?_⟩, h.l1, ⟨fun v hv => ?_, fun hl => ?_⟩, h.l2⟩
  · obtain ⟨ad, e, hlt, hc⟩ := h.lits.2 hl
    have h0 := hc 0 _ (List.getElem?_eq_getElem hl) 0 _ rfl
    have hne := far _ _ _ h0
    rw [block_add] at hne
    exact ⟨ad, e, Nat.lt_of_lt_of_le hlt hk.size, fun i x hx j q hq => by rw [hk.cell (by rw [block_add]; exact hlt) (by rw [block_add]; exact hne)]; exact hc i x hx j q hq⟩
  · obtain ⟨h1, h2⟩ := h.parts.1 v hv
    refine ⟨⟨h1.1, fun hl => ?_⟩, h2⟩
    obtain ⟨ad, e, hlt, hc⟩ := h1.2 hl
    have hne := far _ _ _ (hc 0 hl)
    rw [block_add] at hne
    exact ⟨ad, e, Nat.lt_of_lt_of_le hlt hk.size, fun j hj => by rw [hk.cell (by rw [block_add]; exact hlt) (by rw [block_add]; exact hne)]; exact hc j hj⟩
  · obtain ⟨ad, e, hlt, hc⟩ := h.parts.2 hl
    have h0 := hc 0 _ (List.getElem?_eq_getElem hl) 0 _ rfl
    have hne := far _ _ _ h0
    rw [block_add] at hne
    exact ⟨ad, e, Nat.lt_of_lt_of_le hlt hk.size, fun i x hx j q hq => by rw [hk.cell (by rw [block_add]; exact hlt) (by rw [block_add]; exact hne)]; exact hc i x hx j q hq⟩
/-- What each operation gives where two methods are given at once. -/
def TwoF (v1 v2 : MV) (j : Nat) (v : Value) (w : World) : Prop := match j with
  | 0 => v = .agg (mvCells v1)
  | 1 => ∃ u : MV, v = .agg (mvCells u) ∧ u.m = v1.m ∧ MethAt w u
  | 2 => v = .agg (mvCells v2)
  | 3 => ∃ u : MV, v = .agg (mvCells u) ∧ u.m = v2.m ∧ MethAt w u
  | _ => ∃ g, v = .pointer (some ⟨g, 0, none⟩) ∧ Blk w g 37 #[.string ⟨#[]⟩, .slice none 0 0, .slice none 0 0]
theorem TwoF.mono {v1 v2 : MV} (j : Nat) (v : Value) (w w' : World) (h : TwoF v1 v2 j v w) (hg : Grew w w') : TwoF v1 v2 j v w' := by
  unfold TwoF at h ⊢
  split at h
  · exact h
  · obtain ⟨u, h1, h2, h3⟩ := h
    exact ⟨u, h1, h2, h3.grew hg⟩
  · exact h
  · obtain ⟨u, h1, h2, h3⟩ := h
    exact ⟨u, h1, h2, h3.grew hg⟩
  · obtain ⟨g, h1, h2⟩ := h
    exact ⟨g, h1, h2.grew hg⟩
theorem enc_few {w : World} {u : MV} (h : MethAt w u) : (Mt.enc u.m).length ≤ 600000 := by
  have := pre2_len (s := u.sel) (l := u.lits) (ps := u.vs.map (·.p)) h.sel h.l1 (fun x hx => (h.lits.1 x hx).2) (by rw [List.length_map]; exact h.l2) (fun x hx => by
    obtain ⟨v, hv, rfl⟩ := List.mem_map.1 hx
    exact (h.parts.1 v hv).2.2.2) (u.vs.map (·.p)).length
  rwa [pre2_end] at this
theorem enc_low {w : World} {u : MV} (h : MethAt w u) : ∀ x ∈ Mt.enc u.m, x < 256 := Mt.enc_bytes (fun p hp => by
  obtain ⟨v, hv, rfl⟩ := List.mem_map.1 hp
  exact (h.parts.1 v hv).1.1)
end Go.Proofs.YtjdgcgpidhljpaaGreatDoor
