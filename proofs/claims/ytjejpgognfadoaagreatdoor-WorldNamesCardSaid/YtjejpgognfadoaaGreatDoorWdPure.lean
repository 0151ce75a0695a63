/-
  A world as plain data: wires with two ends, descriptors, signals, the notice; what the ends' calls do to it.
-/
import Derived.Test.YtjejpgognfadoaaGreatDoorSgPure
namespace Go.Proofs.YtjejpgognfadoaaGreatDoor

/-- An end: what it is (0 nobody's, 1 inside, 2 outside, 3 closed), whether it is shut, can read; its ring's bytes, and how many ever came in; how often its sides rose. -/
structure En where
  is : Nat
  shut : Bool
  can : Bool
  bs : List Int
  inn : Nat
  rd : Nat
  wr : Nat
/-- A wire: its ends (the first one is that of false), the capacity of its rings, whether it is reset, its backlog, which wires wait. -/
structure Wi where
  e : Bool → En
  cap : Nat
  reset : Bool
  back : Nat
  wait : List Nat
/-- A world: ticks, wires, what descriptors name, signals, the notice. -/
structure Ws where
  now : Nat
  ws : List Wi
  fds : Nat → Option (Nat × Bool)
  sg : T
  nt : Option (Nat × Bool)

def Wi.set (x : Wi) (k : Bool) (p : En) : Wi := { x with e := fun j => if j = k then p else x.e j }
theorem Wi.set_e (x : Wi) (k j : Bool) (p : En) : (x.set k p).e j = if j = k then p else x.e j := rfl
theorem Wi.set_same (x : Wi) (k : Bool) (p : En) : (x.set k p).e k = p := if_pos rfl
theorem Wi.set_other (x : Wi) (k : Bool) (p : En) : (x.set k p).e (!k) = x.e (!k) := if_neg (by cases k <;> decide)
theorem Wi.set_id (x : Wi) (k : Bool) : x.set k (x.e k) = x := by
  unfold Wi.set
  have : (fun j => if j = k then x.e k else x.e j) = x.e := by funext j; split <;> simp_all
  rw [this]
def Wi.rdRise (x : Wi) (k : Bool) : Wi := if (x.e k).can then x.set k { x.e k with rd := (x.e k).rd + 1 } else x
def Wi.wrRise (x : Wi) (k : Bool) : Wi := if (x.e (!k)).can then x.set k { x.e k with wr := (x.e k).wr + 1 } else x
/-- How many of so many bytes there is room for. -/
def Wi.room (x : Wi) (k : Bool) (n : Nat) : Nat := min n (x.cap - (x.e k).bs.length)
def Wi.put (x : Wi) (k : Bool) (zs : List Int) : Wi := x.set k { x.e k with bs := (x.e k).bs ++ zs.take (x.room k zs.length), inn := (x.e k).inn + x.room k zs.length }
def Wi.fill (x : Wi) (k : Bool) (zs : List Int) : Wi := if 0 < x.room k zs.length then (x.put k zs).rdRise k else x.put k zs
def Wi.cut (x : Wi) (k : Bool) (n : Nat) : Wi := x.set k { x.e k with bs := (x.e k).bs.drop n }
def Wi.drain (x : Wi) (k : Bool) (n : Nat) : Wi := if 0 < ((x.e k).bs.take n).length then (x.cut k n).wrRise (!k) else x.cut k n
def Wi.stop (x : Wi) (k : Bool) : Wi := if (x.e k).shut then x else (x.set k { x.e k with shut := true }).rdRise (!k)
def Wi.mark (x : Wi) (k : Bool) (n : Nat) : Wi := x.set k { x.e k with is := n }
def Wi.close (x : Wi) (k : Bool) : Wi := if (x.e k).shut then (x.mark k 3).wrRise (!k) else ((x.mark k 3).rdRise (!k)).wrRise (!k)
def Wi.noWriter (x : Wi) (k : Bool) : Bool := decide ((x.e (!k)).is = 3) || (x.e (!k)).shut
def Wi.noReader (x : Wi) (k : Bool) : Bool := decide ((x.e (!k)).is = 3)
/-- What is ready of an end. -/
structure Rdy where
  isOpen : Bool
  rin : Bool
  out : Bool
  hup : Bool
  err : Bool
  rd : Nat
  wr : Nat
def Wi.rin (x : Wi) (k : Bool) : Bool := decide (0 < x.wait.length) || (x.e k).can && (decide (0 < (x.e k).bs.length) || x.noWriter k || x.reset)
def Wi.out (x : Wi) (k : Bool) : Bool := (x.e (!k)).can && !(x.e k).shut && (decide (0 < x.cap - (x.e (!k)).bs.length) || x.noReader k || x.reset)
def Wi.ready (x : Wi) (k : Bool) : Rdy := ⟨true, x.rin k, x.out k, x.noReader k, x.reset, (x.e k).rd, (x.e k).wr⟩

/-- A new end of a wire, and a new wire whose first ends, so many of them, can read. -/
def En.new (is : Nat) (can : Bool) : En := ⟨is, false, can, [], 0, 0, 0⟩
def Wi.new (cap readers : Nat) : Wi := ⟨fun k => En.new 0 (if k then decide (1 < readers) else decide (0 < readers)), cap, false, 0, []⟩

/-- No counter of an end is above N. -/
def En.le (p : En) (N : Nat) : Prop := p.inn ≤ N ∧ p.rd ≤ N ∧ p.wr ≤ N
def Wi.le (x : Wi) (N : Nat) : Prop := ∀ k, (x.e k).le N
def Ws.le (s : Ws) (N : Nat) : Prop := ∀ (i : Nat) (x : Wi), s.ws[i]? = some x → x.le N
section
variable {p : En} {x : Wi} {s : Ws} {N M : Nat} {k : Bool}
theorem En.le.mono (h : p.le N) (hN : N ≤ M) : p.le M := ⟨Nat.le_trans h.1 hN, Nat.le_trans h.2.1 hN, Nat.le_trans h.2.2 hN⟩
theorem Wi.le.mono (h : x.le N) (hN : N ≤ M) : x.le M := fun k => (h k).mono hN
theorem Ws.le.mono (h : s.le N) (hN : N ≤ M) : s.le M := fun i x hx => (h i x hx).mono hN
theorem Wi.le_set (h : x.le N) (hp : p.le N) : (x.set k p).le N := fun j => by
  rw [Wi.set_e]
  split
  · exact hp
  · exact h j
theorem Wi.le_rdRise (h : x.le N) (k : Bool) : (x.rdRise k).le (N + 1) := by
  unfold Wi.rdRise
  split
  · exact Wi.le_set (h.mono (Nat.le_succ _)) ⟨by have := (h k).1; show (x.e k).inn ≤ _; omega, by have := (h k).2.1; show (x.e k).rd + 1 ≤ _; omega, by have := (h k).2.2; show (x.e k).wr ≤ _; omega⟩
  · exact h.mono (Nat.le_succ _)
theorem Wi.le_wrRise (h : x.le N) (k : Bool) : (x.wrRise k).le (N + 1) := by
  unfold Wi.wrRise
  split
  · exact Wi.le_set (h.mono (Nat.le_succ _)) ⟨by have := (h k).1; show (x.e k).inn ≤ _; omega, by have := (h k).2.1; show (x.e k).rd ≤ _; omega, by have := (h k).2.2; show (x.e k).wr + 1 ≤ _; omega⟩
  · exact h.mono (Nat.le_succ _)
theorem Wi.le_put (h : x.le N) (k : Bool) (zs : List Int) : (x.put k zs).le (N + x.room k zs.length) :=
  Wi.le_set (h.mono (Nat.le_add_right _ _)) ⟨by have := (h k).1; show (x.e k).inn + _ ≤ _; omega, by have := (h k).2.1; show (x.e k).rd ≤ _; omega, by have := (h k).2.2; show (x.e k).wr ≤ _; omega⟩
theorem Wi.le_fill (h : x.le N) (k : Bool) (zs : List Int) : (x.fill k zs).le (N + zs.length + 1) := by
  have hr : x.room k zs.length ≤ zs.length := Nat.min_le_left _ _
  unfold Wi.fill
  split
  · exact (Wi.le_rdRise (Wi.le_put h k zs) k).mono (by omega)
  · exact (Wi.le_put h k zs).mono (by omega)
theorem Wi.le_cut (h : x.le N) (k : Bool) (n : Nat) : (x.cut k n).le N := Wi.le_set h (h k)
theorem Wi.le_drain (h : x.le N) (k : Bool) (n : Nat) : (x.drain k n).le (N + 1) := by
  unfold Wi.drain
  split
  · exact Wi.le_wrRise (Wi.le_cut h k n) _
  · exact (Wi.le_cut h k n).mono (Nat.le_succ _)
theorem Wi.le_stop (h : x.le N) (k : Bool) : (x.stop k).le (N + 1) := by
  unfold Wi.stop
  split
  · exact h.mono (Nat.le_succ _)
  · exact Wi.le_rdRise (Wi.le_set h (show ({ x.e k with shut := true } : En).le N from h k)) _
theorem Wi.le_mark (h : x.le N) (k : Bool) (n : Nat) : (x.mark k n).le N := Wi.le_set h (h k)
theorem Wi.le_close (h : x.le N) (k : Bool) : (x.close k).le (N + 2) := by
  unfold Wi.close
  split
  · exact (Wi.le_wrRise (Wi.le_mark h k 3) _).mono (by omega)
  · exact Wi.le_wrRise (Wi.le_rdRise (Wi.le_mark h k 3) _) _
theorem Wi.le_new (cap r N : Nat) : (Wi.new cap r).le N := fun _ => ⟨Nat.zero_le _, Nat.zero_le _, Nat.zero_le _⟩
end

/-- A wire turned. -/
def Ws.setW (s : Ws) (i : Nat) (x : Wi) : Ws := { s with ws := s.ws.set i x }
theorem Ws.setW_get {s : Ws} {i j : Nat} {x y : Wi} (h : (s.setW i x).ws[j]? = some y) : (i = j ∧ y = x) ∨ (i ≠ j ∧ s.ws[j]? = some y) := by
  unfold Ws.setW at h
  simp only [List.getElem?_set] at h
  split at h
  · split at h
    · cases h; exact .inl ⟨by assumption, rfl⟩
    · cases h
  · exact .inr ⟨by assumption, h⟩
theorem Ws.le_setW {s : Ws} {i : Nat} {x : Wi} {N : Nat} (h : s.le N) (hx : x.le N) : (s.setW i x).le N := fun j y hy => by
  rcases Ws.setW_get hy with ⟨_, rfl⟩ | ⟨_, hy⟩
  · exact hx
  · exact h j y hy
end Go.Proofs.YtjejpgognfadoaaGreatDoor
