/- What is read has texts that fit; the law's calls on it. -/
import Derived.Test.YtkoabcncdjmoeaaGreatDoorMq
import Derived.Test.YtkoabcncdjmoeaaGreatDoorMt
import Derived.Test.YtkoabcncdjmoeaaGreatDoorMw
set_option linter.unusedSimpArgs false
set_option linter.unusedVariables false
set_option maxRecDepth 1000000
set_option maxHeartbeats 40000000
namespace Go.Proofs.YtkoabcncdjmoeaaGreatDoor
open Go.RowKit Pv
theorem okL_of : ∀ {ks : List Ty5},(∀ t ∈ ks,okT t) -> okT.okL ks
 | [],_ => trivial
 | t :: r,h => ⟨h t (List.mem_cons_self ..),okL_of fun u hu => h u (List.mem_cons_of_mem _ hu)⟩
theorem nil_size : (⟨#[]⟩ : ByteArray).size ≤ maxLen := by decide
theorem no_mem : ∀ s ∈ ([] : List ByteArray),s.size ≤ maxLen := fun s h => absurd h List.not_mem_nil
theorem recT_okT {ls : List ByteArray} {ks : List Ty5} (hs : ∀ s ∈ ls,s.size ≤ maxLen) (hk : ∀ t ∈ ks,okT t) : okT (recT ls ks) := by
 have hp := sortP_perm (ls.zip ks)
 refine ⟨nil_size,fun s h => ?_,okL_of fun t h => ?_⟩
 ·obtain ⟨p,hp1,rfl⟩ := List.mem_map.1 h
  exact hs _ (List.of_mem_zip (hp.mem_iff.1 hp1)).1
 ·obtain ⟨p,hp1,rfl⟩ := List.mem_map.1 h
  exact hk _ (List.of_mem_zip (hp.mem_iff.1 hp1)).2
theorem meanT_ok {s : ByteArray} (hs : s.size ≤ maxLen) {u : Ty5} (h : meanT s = some u) : okT u := by
 have base : ∀ k,okT (.mk k 0 ⟨#[]⟩ [] []) := fun k => ⟨nil_size,no_mem,trivial⟩
 unfold meanT at h
 split at h
 ·cases h;exact base _
 split at h
 ·cases h;exact base _
 split at h
 ·cases h;exact base _
 split at h
 ·cases h;exact base _
 split at h
 ·cases h;exact ⟨hs,no_mem,trivial⟩
 ·cases h
section
variable {l : List Tkn} (hl : ∀ j,(tokT l j).s.size ≤ maxLen)
include hl
theorem wordS_okT {i : Int} {t : Ty5} {to : Int} (e : wordS l i = .ok t to) : okT t := by
 unfold wordS wrongT at e
 split at e
 ·split at e
  ·rename_i u hu
   cases e
   exact meanT_ok (hl i) hu
  ·cases e
 ·cases e
theorem labelS_okT {rd : Int -> Rs} (h : ∀ i t to,rd i = .ok t to -> okT t) {next : Int -> List ByteArray -> List Ty5 -> Rs} (hn : ∀ i ls ks t to,(∀ s ∈ ls,s.size ≤ maxLen) -> (∀ t ∈ ks,okT t) -> next i ls ks = .ok t to -> okT t) {j : Int} {ls : List ByteArray} {ks : List Ty5} (hs : ∀ s ∈ ls,s.size ≤ maxLen) (hk : ∀ t ∈ ks,okT t) {t : Ty5} {to : Int} (e : labelS rd l next j ls ks = .ok t to) : okT t := by
 unfold labelS wrongT at e
 split at e
 ·split at e
  ·cases e
  split at e
  ·split at e
   ·rename_i u to' hr
    refine hn _ _ _ _ _ (fun s hs' => ?_) (fun v hv => ?_) e
    ·rcases List.mem_append.1 hs' with h1 | h1
     ·exact hs s h1
     ·rw [List.mem_singleton.1 h1];exact hl j
    ·rcases List.mem_append.1 hv with h1 | h1
     ·exact hk v h1
     ·rw [List.mem_singleton.1 h1];exact h _ _ _ hr
   ·cases e
  ·cases e
 ·cases e
theorem fieldsS_okT {rd : Int -> Rs} (h : ∀ i t to,rd i = .ok t to -> okT t) : ∀ {f : Nat} {i : Int} {ls : List ByteArray} {ks : List Ty5} {t : Ty5} {to : Int},(∀ s ∈ ls,s.size ≤ maxLen) -> (∀ t ∈ ks,okT t) -> fieldsS recT rd l f i ls ks = .ok t to -> okT t
 | 0,i,ls,ks,t,to,_,_,e => by simp [fieldsS,wrongT] at e
 | f + 1,i,ls,ks,t,to,hs,hk,e => by
  simp only [fieldsS] at e
  split at e
  ·cases e
   exact recT_okT hs hk
  split at e
  ·simp [wrongT] at e
  ·exact labelS_okT hl h (fun _ _ _ _ _ h1 h2 e => fieldsS_okT h h1 h2 e) hs hk e
theorem simpleS_okT {rd : Int -> Rs} (h : ∀ i t to,rd i = .ok t to -> okT t) {i : Int} {t : Ty5} {to : Int} (e : simpleS recT rd l i = .ok t to) : okT t := by
 unfold simpleS at e
 split at e
 ·cases e;exact ⟨nil_size,no_mem,trivial⟩
 split at e
 ·split at e
  ·rename_i u to' hr
   unfold wrongT at e
   split at e
   ·cases e;exact h _ _ _ hr
   ·cases e
  ·cases e
 split at e
 ·exact fieldsS_okT hl h (fun _ h => by cases h) (fun _ h => by cases h) e
 ·exact wordS_okT hl e
theorem readS_okT : ∀ {n : Nat} {i : Int} {t : Ty5} {to : Int},readS recT l n i = .ok t to -> okT t
 | 0,i,t,to,e => by simp [readS] at e
 | n + 1,i,t,to,e => by
  simp only [readS] at e
  split at e
  ·rename_i u to' hs
   have h1 := simpleS_okT hl (fun i t to e => readS_okT e) hs
   split at e
   ·split at e
    ·rename_i v to2 hr
     have h2 := readS_okT hr
     cases e
     exact ⟨nil_size,no_mem,h1,h2,trivial⟩
    ·cases e
   ·cases e
    exact h1
  ·cases e
end
theorem sameq_cp (a b : Ty5) (ha : okT a) (hb : okT b) : CP (TT ()) 11 [tyD a,tyD b] (· = .raw (.bool (sameT a b))) :=
 cp_raw (callable_at Tryz.func11 (by kernel_rfl) rfl) fun S w args r => by
  obtain ⟨v,v',rfl,h,h'⟩ := rdL_two r
  obtain ⟨u0,u1,u2,u3,u4,rfl,hA⟩ := ty_in a ha h
  obtain ⟨v0,v1,v2,v3,v4,rfl,hB⟩ := ty_in b hb h'
  exact rsameTy_any _ a b _ _ _ _ _ _ _ _ _ _ w (Nat.le_refl _) hA hB
end Go.Proofs.YtkoabcncdjmoeaaGreatDoor
