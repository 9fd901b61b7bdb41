import Derived.Test.YtjbacibicnfaeaaDoorLCutsW
namespace Go.Proofs.YtjbacibicnfaeaaDoor
open Go.RowKit Go.Maps
set_option linter.unusedVariables false
set_option linter.unusedSimpArgs false
theorem cut_text {l : Bs} {t : Tok} {n : Nat} (h : cut l = some (some t, n)) : t.text.length ≤ l.length := by
  have := (cutQ_bound l).1
  unfold cutQ at this
  rw [h] at this
  exact this
theorem Lx.texts {p : Nat} {l : Bs} {ts : List (Tok × Nat)} {e : Option Nat} (h : Lx p l ts e) : ∀ x ∈ ts, x.1.text.length ≤ l.length := by
  induction h with
  | stop p => intro x hx; simp at hx
  | bad p l h1 h2 => intro x hx; simp at hx
  | pass p l n ts e h1 h2 ih => intro x hx; have := ih x hx; simp at this; omega
  | tok p l t n ts e h1 h2 ih =>
    intro x hx
    rcases List.mem_cons.1 hx with rfl | hx
    · exact cut_text h1
    · have := ih x hx; simp at this; omega
theorem wt_bound (M : Nat) : ∀ zs : List Z, (∀ z ∈ zs, z.2.1.length ≤ M) → wt zs ≤ (24 + M) * zs.length := by
  intro zs
  induction zs with
  | nil => intro _; exact Nat.zero_le _
  | cons z r ih =>
    intro h
    have h1 := ih (fun x hx => h x (by simp [hx]))
    have h2 := h z (by simp)
    unfold wt at h1 ⊢
    simp only [List.map_cons, List.sum_cons, List.length_cons]
    rw [Nat.mul_add, Nat.mul_one]
    omega
theorem can_z {t : Tok} (h : canB t) (a : Int) : canZ (t.kind : Int) t.text (t.num : Int) ∧ t.kind ≤ 17 := by
  obtain ⟨k, x, m⟩ := t
  obtain ⟨h0, h⟩ := h
  simp only at h0 h ⊢
  refine ⟨⟨fun h4 => by have := h0 (by omega); omega, ?_⟩, by omega⟩
  rcases h with ⟨h1 | h1, h2⟩ | ⟨h1, h2⟩ | ⟨h1, h2, h3⟩ | ⟨h1, h2⟩ | h1 | ⟨h1, h2, h3⟩
  · exact Or.inl ⟨Or.inl (by omega), h2⟩
  · exact Or.inl ⟨Or.inr (by omega), h2⟩
  · exact Or.inr (Or.inl ⟨by omega, h2⟩)
  · exact Or.inr (Or.inr (Or.inl ⟨by omega, h2, by omega, by omega⟩))
  · exact Or.inr (Or.inr (Or.inr (Or.inl ⟨by omega, h2⟩)))
  · exact Or.inr (Or.inr (Or.inr (Or.inr (Or.inl (by omega)))))
  · exact Or.inr (Or.inr (Or.inr (Or.inr (Or.inr ⟨by omega, by omega, h3⟩))))
theorem src_good {l : Bs} {us : List (Tok × Nat)} (h : Lx 0 l us none) (hl : l.length ≤ 4096) (p : Nat) : goodZ ((us ++ [(stopT, p)]).map zOf) ∧ wt ((us ++ [(stopT, p)]).map zOf) ≤ 268435456 := by
  have hc := h.can
  have hx := h.texts
  have hn := h.places.2.1
  constructor
  · intro i hi
    have hi' : i < us.length + 1 := by simpa using hi
    unfold okAt
    rw [zOf_get _ (by simpa using hi')]
    by_cases hlt : i < us.length
    · rw [getD_mid us _ hlt]
      obtain ⟨c1, c2⟩ := can_z (hc us[i] (List.getElem_mem hlt)) 0
      refine ⟨c1, ⟨fun e => ?_, fun e => ?_⟩⟩
      · have e' : ((us[i].1.kind : Nat) : Int) = 18 := e
        omega
      · simp at e
        omega
    · have he : i = us.length := by omega
      rw [he, getD_last]
      refine ⟨⟨fun _ => rfl, Or.inr (Or.inr (Or.inr (Or.inr (Or.inr ⟨by show (7 : Int) ≤ 18; decide, by show (18 : Int) ≤ 18; decide, rfl⟩))))⟩, ⟨fun _ => by simp, fun _ => rfl⟩⟩
  · have := wt_bound 4096 ((us ++ [(stopT, p)]).map zOf) (fun z hz => by
      obtain ⟨x, hxm, rfl⟩ := List.mem_map.1 hz
      rcases List.mem_append.1 hxm with h1 | h1
      · have := hx x h1
        show x.1.text.length ≤ 4096
        omega
      · rw [List.mem_singleton.1 h1]
        exact Nat.zero_le _)
    have e : ((us ++ [(stopT, p)]).map zOf).length = us.length + 1 := by simp
    rw [e] at this
    omega
theorem print_nil (p : Option Addr) (c : Nat) (w : World) : Calls Tryd.prog 19 #[.slice p 0 c] w fun e w' => e = .returned (.tuple #[.string ⟨#[]⟩, .int .i64 1]) ∧ w' = w := by
  have v0 : IntKind.i64.wrap (0 - 1) = -1 := by decide
  go_enter Tryd.func19, Tryd.ntmps19
  go_wp2
  go_ret2
  exact ⟨rfl, rfl⟩
end Go.Proofs.YtjbacibicnfaeaaDoor
