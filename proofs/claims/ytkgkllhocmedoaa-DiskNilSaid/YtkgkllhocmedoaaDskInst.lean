/- The program's disk keeps all that the laws want of it. -/
import Derived.Test.YtkgkllhocmedoaaDskBack
import Derived.Test.YtkgkllhocmedoaaDskClone
import Derived.Test.YtkgkllhocmedoaaDskOps
namespace Go.Proofs.Ytkgkllhocmedoaa
open Go.RowKit
set_option linter.unusedVariables false

theorem DkG.carry {w w' : World} {d : Nat} {D : Dsk} {M M' Z Z' : Nat → Prop} (h : DkG w d D M Z) (hs : w.heap.size ≤ w'.heap.size) (hM : ∀ k, M' k → M k ∨ w.heap.size ≤ k) (hZ : ∀ k, Z' k → Z k ∨ w.heap.size ≤ k) (hb : ∀ k, k < w.heap.size → ¬ M k → w'.heap[k]? = w.heap[k]?) : DkG w' d D M' Z' := by
  obtain ⟨t, h⟩ := h
  exact ⟨t, h.carry hs hM hZ hb⟩

theorem DkG.wide {w w' : World} {d : Nat} {D : Dsk} {Z : Nat → Prop} (h : DkG w d D Z Z) (hb : Below w.heap.size w w') : DkG w' d D (fun k => Z k ∨ w.heap.size ≤ k) (fun k => Z k ∨ w.heap.size ≤ k) :=
  h.carry hb.size (fun k hk => hk) (fun k hk => hk) fun k hk _ => hb.block k hk

theorem DkG.own {w : World} {d : Nat} {D : Dsk} {M Z : Nat → Prop} (h : DkG w d D M Z) : ¬ Z d ∧ d < w.heap.size := by
  obtain ⟨t, h⟩ := h
  exact ⟨h.own.2, h.lt⟩

theorem keeps_own {w w' w0 : World} {d : Nat} {D : Dsk} {Z : Nat → Prop} (h : DkG w0 d D Z Z) (hk : Keeps (· ≠ d) w w') : Keeps Z w w' := hk.mono fun k hz e => h.own.1 (e ▸ hz)

def diskOps : DiskOps where
  Dk w d D Z := DkG w d D Z Z
  keep h hs hb := h.carry hs (fun k hk => .inl hk) (fun k hk => .inl hk) hb
  out h hz := h.carry (Nat.le_refl _) hz hz fun k _ _ => rfl
  own h := h.own
  new_ok room w Z h0 h1 hZ := (new_any room w Z Z h0 h1 hZ hZ).mono fun e w' ⟨d, he, hD, hb⟩ => ⟨d, he, hD, keeps_below hb (Nat.le_refl _)⟩
  new_bad room w h := (new_bad room w h).mono fun e w' ⟨he, hw⟩ => ⟨he, hw ▸ Below.refl _ _⟩
  append w d D Z name A cap l h hg hZ hl hb _ _ := append_any w d D Z Z name A cap l h hg hZ hZ hl hb
  sync w d D Z name h hg hZ _ := (sync_any w d D Z Z name h hg hZ hZ).mono fun e w' ⟨he, hD, hk⟩ => ⟨he, hD, keeps_own h hk⟩
  cut w d D Z name n h hg hZ _ hn := (cut_any w d D Z Z name n hn h hg hZ hZ).mono fun e w' ⟨he, hD, hk⟩ => ⟨he, hD, keeps_own h hk⟩
  rename w d D Z a b h hg hZ _ _ := (rename_any w d D Z Z a b h hg hZ hZ).mono fun e w' ⟨he, hD, hk⟩ => ⟨he, hD, keeps_own h hk⟩
  remove w d D Z name h hg hZ _ := (remove_any w d D Z Z name h hg hZ hZ).mono fun e w' ⟨he, hD, hk⟩ => ⟨he, hD, keeps_own h hk⟩
  read w d D Z name h hg hZ _ := (read_any w d D Z Z name h hg).mono fun e w' ⟨A, cap, he, hl, hn, hb, _⟩ => ⟨A, cap, he, hl, fun _ => hn, h.wide hb, keeps_below hb (Nat.le_refl _)⟩
  names w d D Z h hg hZ := (names_any w d D Z Z h hg).mono fun e w' ⟨A, cap, he, hr, hn, hb⟩ => ⟨A, cap, he, fun h0 => by
    obtain ⟨g, off, e, hg, hc⟩ := hr (by rw [List.length_map]; exact h0)
    exact ⟨g, off, e, hg, fun j hj => by
      have := hc j (by rw [List.length_map]; exact hj)
      rwa [List.getElem_map] at this⟩, fun _ => hn, h.wide hb, keeps_below hb (Nat.le_refl _)⟩
  safe w d D Z name h hg hZ _ := safe_any w d D Z Z name h
  used w d D Z h hg hZ := (used_any w d D Z Z h).mono fun e w' ⟨he, hw⟩ => ⟨he, hw ▸ h, hw ▸ Keeps.refl _ _⟩
  lost w d D Z h := lost_any w d D Z Z h
  fuse w d D Z n h hZ hn := (fuse_any w d D Z Z n h).mono fun e w' ⟨he, hD, hk⟩ => ⟨he, hD, keeps_own h hk⟩
  restart w d D Z K klen kcap Y h hg hZ hK hl hc hd := (restart_any w d D Z Z K klen kcap Y h hg hZ hZ hK hl hc hd).mono fun e w' ⟨he, hD, hk⟩ => ⟨he, hD, keeps_own h hk⟩
  clone w d D Z h hg hZ := (clone_disk w d D Z Z h hg hZ).mono fun e w' ⟨he, hD, hb⟩ => ⟨_, he, hD.carry (Nat.le_refl _) (fun k hk => .inl hk) (fun k hk => .inl (hZ k hk)) (fun k _ _ => rfl), keeps_below hb (Nat.le_refl _)⟩

end Go.Proofs.Ytkgkllhocmedoaa
