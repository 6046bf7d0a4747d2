import PyProof.Rows.All
import KE.OsGo
import KE.OsArgs
import KE.KSortTupG
import PySem.Challenge.RW_shorttextsdesk_s20_sort
open PySem PySem.W
set_option Elab.async false
namespace My
/-! ## numbers from 0 on, bytes as whole numbers -/
def Nn (l : List Int) : Prop := ∀ x ∈ l, (0 : Int) ≤ x
def Bs (l : List Int) : Prop := ∀ x ∈ l, (0 : Int) ≤ x ∧ x ≤ 255
theorem Bs.nn {l : List Int} (h : Bs l) : Nn l := fun x hx => (h x hx).1
theorem Nn.take {l : List Int} (h : Nn l) (k : Nat) : Nn (l.take k) := fun x hx => h x (List.mem_of_mem_take hx)
theorem Nn.drop {l : List Int} (h : Nn l) (k : Nat) : Nn (l.drop k) := fun x hx => h x (List.mem_of_mem_drop hx)
theorem Nn.app {a b : List Int} (ha : Nn a) (hb : Nn b) : Nn (a ++ b) := fun x hx => (List.mem_append.1 hx).elim (ha x) (hb x)
theorem Nn.tail {a : Int} {l : List Int} (h : Nn (a :: l)) : Nn l := fun x hx => h x (List.mem_cons_of_mem _ hx)
theorem Nn.head {a : Int} {l : List Int} (h : Nn (a :: l)) : 0 ≤ a := h a List.mem_cons_self
theorem Bs.take {l : List Int} (h : Bs l) (k : Nat) : Bs (l.take k) := fun x hx => h x (List.mem_of_mem_take hx)
theorem Bs.drop {l : List Int} (h : Bs l) (k : Nat) : Bs (l.drop k) := fun x hx => h x (List.mem_of_mem_drop hx)
theorem Bs.tail {a : Int} {l : List Int} (h : Bs (a :: l)) : Bs l := fun x hx => h x (List.mem_cons_of_mem _ hx)
theorem Bs.head {a : Int} {l : List Int} (h : Bs (a :: l)) : 0 ≤ a ∧ a ≤ 255 := h a List.mem_cons_self
abbrev nz (l : List Int) : List Nat := Sv24Neutral.n l
theorem nz_nil : nz [] = [] := rfl
theorem nz_cons (a : Int) (l : List Int) : nz (a :: l) = a.toNat :: nz l := rfl
theorem nz_len (l : List Int) : (nz l).length = l.length := by simp [nz, Sv24Neutral.n]
theorem nz_back {l : List Int} (h : Nn l) : Sv24.numbers (nz l) = l := by
  induction l with
  | nil => rfl
  | cons a r ih =>
    have h2 := ih h.tail
    have h1 := h.head
    show ((a.toNat : Nat) : Int) :: Sv24.numbers (nz r) = _
    rw [h2, Int.toNat_of_nonneg h1]
theorem nz_app (a b : List Int) : nz a ++ nz b = nz (a ++ b) := by simp [nz, Sv24Neutral.n]
theorem nz_take (k : Nat) (a : List Int) : (nz a).take k = nz (a.take k) := by simp [nz, Sv24Neutral.n, List.map_take]
theorem nz_drop (k : Nat) (a : List Int) : (nz a).drop k = nz (a.drop k) := by simp [nz, Sv24Neutral.n, List.map_drop]
theorem nz_rev (a : List Int) : (nz a).reverse = nz a.reverse := by simp [nz, Sv24Neutral.n, List.map_reverse]
theorem nz_inj {a b : List Int} (ha : Nn a) (hb : Nn b) : nz a = nz b ↔ a = b :=
  ⟨fun h => by rw [← nz_back ha, ← nz_back hb, h], fun h => by rw [h]⟩
theorem nz_eqnil (a : List Int) : nz a = [] ↔ a = [] := by cases a <;> simp [nz, Sv24Neutral.n]
theorem nz_mem {l : List Int} (h : Nn l) {c : Int} (hc : 0 ≤ c) : c.toNat ∈ nz l ↔ c ∈ l := by
  constructor
  · intro hm
    obtain ⟨x, hx, he⟩ := List.mem_map.1 hm
    have := h x hx
    have : x = c := by omega
    exact this ▸ hx
  · intro hm
    exact List.mem_map.2 ⟨c, hm, rfl⟩
theorem nz_has {l : List Int} (h : Nn l) {c : Int} (hc : 0 ≤ c) : (nz l).contains c.toNat = l.contains c := by
  rw [Bool.eq_iff_iff, List.contains_iff_mem, List.contains_iff_mem, nz_mem h hc]
theorem nz_map {f : Nat → Nat} {g : Int → Int} : ∀ {l : List Int}, (∀ x ∈ l, f x.toNat = (g x).toNat) → (nz l).map f = nz (l.map g)
  | [], _ => rfl
  | a :: r, h => by
    rw [nz_cons, List.map_cons, List.map_cons, nz_cons, h a List.mem_cons_self, nz_map (fun x hx => h x (List.mem_cons_of_mem _ hx))]
theorem nz_filter {f : Nat → Bool} {g : Int → Bool} : ∀ {l : List Int}, (∀ x ∈ l, f x.toNat = g x) → (nz l).filter f = nz (l.filter g)
  | [], _ => rfl
  | a :: r, h => by
    rw [nz_cons, List.filter_cons, List.filter_cons, h a List.mem_cons_self, nz_filter (fun x hx => h x (List.mem_cons_of_mem _ hx))]
    split <;> rfl
theorem nz_dropWhile {f : Nat → Bool} {g : Int → Bool} : ∀ {l : List Int}, (∀ x ∈ l, f x.toNat = g x) → (nz l).dropWhile f = nz (l.dropWhile g)
  | [], _ => rfl
  | a :: r, h => by
    rw [nz_cons, List.dropWhile_cons, List.dropWhile_cons, h a List.mem_cons_self, nz_dropWhile (fun x hx => h x (List.mem_cons_of_mem _ hx))]
    split <;> rfl
/-- a text's answer -/
def tell (l : List Int) : List Int := ((l.take 31).length : Int) :: l.take 31
theorem told {l : List Int} (h : Nn l) : (Sv24.text (nz l)).v :: (Sv24.text (nz l)).l = tell l := by
  show (((Sv24.cut (nz l)).length : Nat) : Int) :: Sv24.numbers (Sv24.cut (nz l)) = _
  have e : Sv24.cut (nz l) = nz (l.take 31) := nz_take 31 l
  rw [e, nz_len, nz_back (h.take 31)]
  rfl
theorem tell_short {l : List Int} (h : l.length ≤ 31) : tell l = (l.length : Int) :: l := by
  unfold tell; rw [List.take_of_length_le h]
/-! ## the calls over whole numbers -/
theorem join_eq {a b : List Int} (ha : Nn a) (hb : Nn b) : PySv24.join a b = tell (a ++ b) := by
  show (Sv24.text (nz a ++ nz b)).v :: (Sv24.text (nz a ++ nz b)).l = _
  rw [nz_app]
  exact told (ha.app hb)
theorem part_eq {t : List Int} {i k : Int} (ht : Nn t) : PySv24.part i k t = tell ((t.drop (max i 0).toNat).take (max 0 (i + max k 0) - max i 0).toNat) := by
  show (Sv24.text (((nz t).drop (max i 0).toNat).take (max 0 (i + max k 0) - max i 0).toNat)).v :: (Sv24.text (((nz t).drop (max i 0).toNat).take (max 0 (i + max k 0) - max i 0).toNat)).l = _
  rw [nz_drop, nz_take]
  exact told ((ht.drop _).take _)
theorem turn_eq {t : List Int} (ht : Nn t) : PySv24.turn t = tell t.reverse := by
  show (Sv24.text (nz t).reverse).v :: (Sv24.text (nz t).reverse).l = _
  rw [nz_rev]
  exact told (fun x hx => ht x (List.mem_reverse.1 hx))
theorem only_eq {t s : List Int} {how : Int} (ht : Nn t) (hs : Nn s) : PySv24.only how t s = tell (t.filter fun c => s.contains c == decide (how = 0)) := by
  show (Sv24.text ((nz t).filter fun c => (nz s).contains c == decide (how = 0))).v :: (Sv24.text ((nz t).filter fun c => (nz s).contains c == decide (how = 0))).l = _
  rw [nz_filter (g := fun c => s.contains c == decide (how = 0)) (fun x hx => by rw [nz_has hs (ht x hx)])]
  exact told (fun x hx => ht x (List.mem_filter.1 hx).1)
theorem mask_go {s : List Int} (hs : Nn s) : ∀ {t : List Int}, Nn t → ((List.range t.length).map fun i => if (nz s).contains ((nz t).getD i 0) = true then 2 ^ i else 0) = ((List.range t.length).map fun i => if s.contains (t.getD i 0) = true then 2 ^ i else 0) := by
  intro t ht
  apply List.map_congr_left
  intro i hi
  have hi := List.mem_range.1 hi
  have e : (nz t).getD i 0 = (t.getD i 0).toNat := by
    simp [nz, Sv24Neutral.n, List.getD_eq_getElem?_getD, hi]
  have h0 : 0 ≤ t.getD i 0 := by
    rw [List.getD_eq_getElem?_getD, List.getElem?_eq_getElem hi]
    exact ht _ (List.getElem_mem hi)
  rw [e, nz_has hs h0]
/-- bits from the place k on -/
def bitsFrom (s : List Int) : Nat → List Int → Int
  | _, [] => 0
  | k, c :: r => (if s.contains c = true then (2 : Int) ^ k else 0) + bitsFrom s (k + 1) r
theorem bits_range (s : List Int) : ∀ (t : List Int) (k : Nat), bitsFrom s k t = ((((List.range t.length).map fun i => if s.contains (t.getD i 0) = true then 2 ^ (k + i) else 0).sum : Nat) : Int)
  | [], _ => rfl
  | c :: r, k => by
    have ih := bits_range s r (k + 1)
    rw [bitsFrom, ih, List.length_cons, List.range_succ_eq_map, List.map_cons, List.map_map, List.sum_cons, Int.natCast_add]
    congr 1
    · show _ = (((if s.contains c = true then 2 ^ (k + 0) else 0) : Nat) : Int)
      split <;> simp
    · congr 1
      apply congrArg
      apply List.map_congr_left
      intro i _
      show _ = if s.contains (r.getD i 0) = true then 2 ^ (k + (i + 1)) else 0
      rw [Nat.add_right_comm, Nat.add_assoc]
theorem mask_eq {t s : List Int} (ht : Nn t) (hs : Nn s) : PySv24.mask t s = [bitsFrom s 0 t] := by
  show [((Sv24.mask (nz t) (nz s) : Nat) : Int)] = _
  unfold Sv24.mask
  rw [nz_len, mask_go hs ht, bits_range]
  simp only [Nat.zero_add]
/-! ### case -/
def smallZ (c : Int) : Int := if 65 ≤ c ∧ c ≤ 90 then c + 32 else c
def capZ (c : Int) : Int := if 97 ≤ c ∧ c ≤ 122 then c - 32 else c
def otherZ (c : Int) : Int := if 65 ≤ c ∧ c ≤ 90 then c + 32 else capZ c
def letterZ (c : Int) : Bool := (decide (65 ≤ c) && decide (c ≤ 90)) || (decide (97 ≤ c) && decide (c ≤ 122))
theorem small_z {c : Int} (h : 0 ≤ c) : Sv24.small c.toNat = (smallZ c).toNat := by
  unfold Sv24.small smallZ; split <;> split <;> omega
theorem cap_z {c : Int} (h : 0 ≤ c) : Sv24.capital c.toNat = (capZ c).toNat := by
  unfold Sv24.capital capZ; split <;> split <;> omega
theorem other_z {c : Int} (h : 0 ≤ c) : (if 65 ≤ c.toNat ∧ c.toNat ≤ 90 then c.toNat + 32 else Sv24.capital c.toNat) = (otherZ c).toNat := by
  unfold otherZ; rw [cap_z h]; split <;> split <;> omega
theorem letter_z {c : Int} (h : 0 ≤ c) : Sv24.letter c.toNat = letterZ c := by
  unfold Sv24.letter letterZ
  have e1 : (65 ≤ c.toNat) = (65 ≤ c) := by apply propext; omega
  have e2 : (c.toNat ≤ 90) = (c ≤ 90) := by apply propext; omega
  have e3 : (97 ≤ c.toNat) = (97 ≤ c) := by apply propext; omega
  have e4 : (c.toNat ≤ 122) = (c ≤ 122) := by apply propext; omega
  simp only [e1, e2, e3, e4]
theorem small_nn {c : Int} (h : 0 ≤ c) : 0 ≤ smallZ c := by unfold smallZ; split <;> omega
theorem cap_nn {c : Int} (h : 0 ≤ c) : 0 ≤ capZ c := by unfold capZ; split <;> omega
theorem other_nn {c : Int} (h : 0 ≤ c) : 0 ≤ otherZ c := by unfold otherZ capZ; split <;> (try split) <;> omega
def titledZ : Bool → List Int → List Int
  | _, [] => []
  | b, c :: r => (if b = true then smallZ c else capZ c) :: titledZ (letterZ c) r
theorem titled_z : ∀ {l : List Int} {b : Bool}, Nn l → Sv24.titled b (nz l) = nz (titledZ b l) ∧ Nn (titledZ b l)
  | [], b, _ => ⟨by cases b <;> rfl, by cases b <;> exact fun x hx => (nomatch hx)⟩
  | c :: r, b, h => by
    obtain ⟨e, hn⟩ := titled_z (b := letterZ c) h.tail
    constructor
    · rw [nz_cons, Sv24.titled, titledZ, nz_cons, letter_z h.head, e, small_z h.head, cap_z h.head]
      cases b <;> rfl
    · intro x hx
      rw [titledZ] at hx
      rcases List.mem_cons.1 hx with rfl | hx
      · cases b
        · exact cap_nn h.head
        · exact small_nn h.head
      · exact hn x hx
def casedZ (how : Int) (t : List Int) : List Int := if how = 0 then t.map smallZ else if how = 1 then t.map capZ else if how = 2 then t.map otherZ else if how = 3 then titledZ false t else t
theorem nn_map {l : List Int} {g : Int → Int} (h : Nn l) (hg : ∀ c, 0 ≤ c → 0 ≤ g c) : Nn (l.map g) := by
  intro x hx
  obtain ⟨y, hy, rfl⟩ := List.mem_map.1 hx
  exact hg y (h y hy)
theorem cased_eq {how : Int} {t : List Int} (ht : Nn t) : PySv24.cased how t = tell (casedZ how t) := by
  show (Sv24.text (Sv24.cased (nz t) how)).v :: (Sv24.text (Sv24.cased (nz t) how)).l = _
  have e : Sv24.cased (nz t) how = nz (casedZ how t) ∧ Nn (casedZ how t) := by
    unfold Sv24.cased casedZ
    split
    · exact ⟨nz_map (fun x hx => small_z (ht x hx)), nn_map ht (fun c h => small_nn h)⟩
    · split
      · exact ⟨nz_map (fun x hx => cap_z (ht x hx)), nn_map ht (fun c h => cap_nn h)⟩
      · split
        · exact ⟨nz_map (fun x hx => other_z (ht x hx)), nn_map ht (fun c h => other_nn h)⟩
        · split
          · exact titled_z ht
          · exact ⟨rfl, ht⟩
  rw [e.1]
  exact told e.2
/-! ### trim -/
def trimZ (how : Int) (t s : List Int) : List Int :=
  let a := if how % 2 = 1 then t.dropWhile s.contains else t
  if how / 2 % 2 = 1 then (a.reverse.dropWhile s.contains).reverse else a
theorem nn_sub {a b : List Int} (h : Nn b) (hs : a.Sublist b) : Nn a := fun x hx => h x (hs.subset hx)
theorem trim_eq {how : Int} {t s : List Int} (ht : Nn t) (hs : Nn s) : PySv24.trim how t s = tell (trimZ how t s) := by
  show (Sv24.text (Sv24.trim (nz t) (nz s) how)).v :: (Sv24.text (Sv24.trim (nz t) (nz s) how)).l = _
  have hc : ∀ {l : List Int}, Nn l → (nz l).dropWhile (nz s).contains = nz (l.dropWhile s.contains) := fun h => nz_dropWhile (fun x hx => nz_has hs (h x hx))
  have e : Sv24.trim (nz t) (nz s) how = nz (trimZ how t s) ∧ Nn (trimZ how t s) := by
    unfold Sv24.trim trimZ
    have h1 : (if how % 2 = 1 then (nz t).dropWhile (nz s).contains else nz t) = nz (if how % 2 = 1 then t.dropWhile s.contains else t) := by
      split
      · exact hc ht
      · rfl
    have h2 : Nn (if how % 2 = 1 then t.dropWhile s.contains else t) := by
      split
      · exact nn_sub ht (List.dropWhile_sublist _)
      · exact ht
    dsimp only
    rw [h1]
    generalize (if how % 2 = 1 then t.dropWhile s.contains else t) = a at h2
    have h3 : Nn a.reverse := fun x hx => h2 x (List.mem_reverse.1 hx)
    split
    · rw [nz_rev, hc h3, nz_rev]
      exact ⟨rfl, fun x hx => nn_sub h3 (List.dropWhile_sublist _) x (List.mem_reverse.1 hx)⟩
    · exact ⟨rfl, h2⟩
  rw [e.1]
  exact told e.2
/-! ### compare -/
def beforeZ : List Int → List Int → Bool
  | a :: r, b :: s => decide (a < b) || (a == b && beforeZ r s)
  | [], _ :: _ => true
  | _, [] => false
theorem before_z : ∀ {a b : List Int}, Nn a → Nn b → Sv24.before (nz a) (nz b) = beforeZ a b
  | [], [], _, _ => rfl
  | [], _ :: _, _, _ => rfl
  | _ :: _, [], _, _ => rfl
  | x :: r, y :: s, ha, hb => by
    rw [nz_cons, nz_cons, Sv24.before, beforeZ, before_z ha.tail hb.tail]
    have h1 := ha.head
    have h2 := hb.head
    have e1 : (x.toNat < y.toNat) = (x < y) := by apply propext; omega
    have e2 : (x.toNat == y.toNat) = (x == y) := by rw [Bool.eq_iff_iff, beq_iff_eq, beq_iff_eq]; omega
    simp only [e1, e2]
def compareZ (how : Int) (a b : List Int) : Int :=
  let x := if how = 1 then a.map smallZ else a
  let y := if how = 1 then b.map smallZ else b
  if how ≠ 0 ∧ how ≠ 1 ∧ x.length ≠ y.length then (if x.length < y.length then -1 else 1) else if beforeZ x y = true then -1 else if beforeZ y x = true then 1 else 0
theorem compare_eq {how : Int} {a b : List Int} (ha : Nn a) (hb : Nn b) : PySv24.compare how a b = [compareZ how a b] := by
  show [Sv24.compare (nz a) (nz b) how] = _
  unfold Sv24.compare compareZ
  have h1 : ∀ {l : List Int}, Nn l → (if how = 1 then (nz l).map Sv24.small else nz l) = nz (if how = 1 then l.map smallZ else l) ∧ Nn (if how = 1 then l.map smallZ else l) := by
    intro l h
    split
    · exact ⟨nz_map (fun x hx => small_z (h x hx)), nn_map h (fun c h => small_nn h)⟩
    · exact ⟨rfl, h⟩
  dsimp only
  rw [(h1 ha).1, (h1 hb).1, nz_len, nz_len, before_z (h1 ha).2 (h1 hb).2, before_z (h1 hb).2 (h1 ha).2]
/-! ### pieces -/
def betweenZ : Nat → List Int → List Int → List Int → List (List Int)
  | 0, _, _, w => [w]
  | f + 1, t, p, w => match t with
    | [] => [w]
    | c :: r => if p.isPrefixOf t = true then w :: betweenZ f (t.drop p.length) p [] else betweenZ f r p (w ++ [c])
theorem prefix_z : ∀ {p t : List Int}, Nn p → Nn t → (nz p).isPrefixOf (nz t) = p.isPrefixOf t
  | [], _, _, _ => by rw [nz_nil, List.isPrefixOf, List.isPrefixOf]
  | _ :: _, [], _, _ => rfl
  | x :: r, y :: s, hp, ht => by
    rw [nz_cons, nz_cons, List.isPrefixOf, List.isPrefixOf, prefix_z hp.tail ht.tail]
    have h1 := hp.head
    have h2 := ht.head
    have e2 : (x.toNat == y.toNat) = (x == y) := by rw [Bool.eq_iff_iff, beq_iff_eq, beq_iff_eq]; omega
    rw [e2]
theorem nn_one {c : Int} (h : 0 ≤ c) : Nn [c] := fun x hx => by rcases List.mem_singleton.1 hx with rfl; exact h
theorem between_z : ∀ (f : Nat) {t p w : List Int}, Nn t → Nn p → Nn w → Sv24.between f (nz t) (nz p) (nz w) = (betweenZ f t p w).map nz ∧ ∀ x ∈ betweenZ f t p w, Nn x
  | 0, t, p, w, _, _, hw => by
    rw [Sv24.between, betweenZ]
    exact ⟨rfl, fun _ hx => by rcases List.mem_singleton.1 hx with rfl; exact hw⟩
  | f + 1, [], p, w, _, _, hw => by
    rw [nz_nil, Sv24.between, betweenZ]
    exact ⟨rfl, fun x hx => by rcases List.mem_singleton.1 hx with rfl; exact hw⟩
  | f + 1, c :: r, p, w, ht, hp, hw => by
    have e1 := between_z f (ht.drop p.length) hp (w := []) (fun x hx => (nomatch hx))
    have e2 := between_z f ht.tail hp (hw.app (nn_one ht.head))
    rw [nz_cons, Sv24.between, betweenZ, ← nz_cons, prefix_z hp ht]
    split
    · constructor
      · rw [nz_len, nz_drop, List.map_cons, ← e1.1]; rfl
      · intro x hx
        rcases List.mem_cons.1 hx with rfl | hx
        · exact hw
        · exact e1.2 x hx
    · constructor
      · rw [← e2.1, ← nz_app]; rfl
      · exact e2.2
def countZ (t p : List Int) : Int := if p = [] then (t.length : Int) + 1 else (((betweenZ (t.length + 1) t p []).length - 1 : Nat) : Int)
theorem nn_nil : Nn [] := fun x hx => (nomatch hx)
theorem count_eq {t p : List Int} (ht : Nn t) (hp : Nn p) : PySv24.count t p = [countZ t p] := by
  show [((Sv24.count (nz t) (nz p) : Nat) : Int)] = _
  unfold Sv24.count countZ
  simp only [nz_eqnil, nz_len]
  have e := (between_z (t.length + 1) ht hp nn_nil).1
  rw [nz_nil] at e
  rw [e, List.length_map]
  split
  · rw [Int.natCast_add]; rfl
  · rfl
def replaceZ (t p r : List Int) : List Int := if p = [] then t else r.intercalate (betweenZ (t.length + 1) t p [])
theorem nz_flat : ∀ (l : List (List Int)), (l.map nz).flatten = nz l.flatten
  | [] => rfl
  | a :: r => by rw [List.map_cons, List.flatten_cons, List.flatten_cons, nz_flat r, nz_app]
theorem nz_inter (r : List Int) : ∀ (l : List (List Int)), List.intersperse (nz r) (l.map nz) = (List.intersperse r l).map nz
  | [] => rfl
  | [_] => rfl
  | a :: b :: l => by
    have ih := nz_inter r (b :: l)
    rw [List.map_cons] at ih
    rw [List.map_cons, List.map_cons, List.intersperse_cons_cons, List.intersperse_cons_cons, ih]
    rfl
theorem nz_sep (r : List Int) : ∀ (l : List (List Int)), (nz r).intercalate (l.map nz) = nz (r.intercalate l) := by
  intro l
  unfold List.intercalate
  rw [← nz_flat, nz_inter]
theorem mem_sep {x : Int} {r : List Int} {l : List (List Int)} (h : x ∈ r.intercalate l) : x ∈ r ∨ ∃ y ∈ l, x ∈ y := by
  unfold List.intercalate at h
  obtain ⟨y, hy, hx⟩ := List.mem_flatten.1 h
  induction l with
  | nil => cases hy
  | cons a l ih =>
    cases l with
    | nil =>
      rw [List.intersperse_singleton] at hy
      rcases List.mem_singleton.1 hy with rfl
      exact .inr ⟨y, List.mem_cons_self, hx⟩
    | cons b l =>
      rw [List.intersperse_cons_cons] at hy
      rcases List.mem_cons.1 hy with rfl | hy
      · exact .inr ⟨y, List.mem_cons_self, hx⟩
      · rcases List.mem_cons.1 hy with rfl | hy
        · exact .inl hx
        · have h2 : x ∈ (List.intersperse r (b :: l)).flatten := List.mem_flatten.2 ⟨y, hy, hx⟩
          rcases ih h2 hy with h3 | ⟨z, hz, hxz⟩
          · exact .inl h3
          · exact .inr ⟨z, List.mem_cons_of_mem _ hz, hxz⟩
theorem replace_eq {t p r : List Int} (ht : Nn t) (hp : Nn p) (hr : Nn r) : PySv24.replace t p r = tell (replaceZ t p r) := by
  show (Sv24.text (Sv24.replace (nz t) (nz p) (nz r))).v :: (Sv24.text (Sv24.replace (nz t) (nz p) (nz r))).l = _
  have e := between_z (t.length + 1) ht hp nn_nil
  rw [nz_nil] at e
  have e2 : Sv24.replace (nz t) (nz p) (nz r) = nz (replaceZ t p r) ∧ Nn (replaceZ t p r) := by
    unfold Sv24.replace replaceZ
    simp only [nz_eqnil, nz_len]
    split
    · exact ⟨rfl, ht⟩
    · rw [e.1, nz_sep]
      refine ⟨rfl, fun x hx => ?_⟩
      rcases mem_sep hx with h | ⟨y, hy, h⟩
      · exact hr x h
      · exact e.2 y hy x h
  rw [e2.1]
  exact told e2.2
end My

namespace My
/-! ## digits, over whole numbers -/
def digZ (d : Int) : Int := if d < 10 then 48 + d else 87 + d
theorem dig_z {d : Nat} : ((Sv24.digit d : Nat) : Int) = digZ (d : Int) := by
  unfold Sv24.digit digZ; split <;> split <;> omega
/-- the digits of n, the highest first -/
theorem digits_step {f base n : Nat} (_ : 2 ≤ base) (_ : n < base ^ (f + 1)) :
    Sv24.digits (f + 1) base n = if n < base then [Sv24.digit n] else Sv24.digits f base (n / base) ++ [Sv24.digit (n % base)] := rfl
theorem digits_fuel : ∀ {f g base n : Nat}, 2 ≤ base → n < base ^ f → n < base ^ g → 0 < f → 0 < g → Sv24.digits f base n = Sv24.digits g base n
  | 0, _, _, _, _, _, _, h, _ => by omega
  | _ + 1, 0, _, _, _, _, _, _, h => by omega
  | f + 1, g + 1, base, n, h2, hf, hg, _, _ => by
    rw [digits_step h2 hf, digits_step h2 hg]
    split
    · rfl
    · rename_i hn
      have hd : ∀ {k : Nat}, n < base ^ (k + 1) → n / base < base ^ k := by
        intro k hk
        rw [Nat.pow_succ] at hk
        exact Nat.div_lt_of_lt_mul (by rw [Nat.mul_comm]; exact hk)
      have hpos : ∀ {k : Nat}, n < base ^ (k + 1) → 0 < k := by
        intro k hk
        cases k with
        | zero => exact absurd (by simpa using hk) hn
        | succ k => omega
      rw [digits_fuel h2 (hd hf) (hd hg) (hpos hf) (hpos hg)]
theorem pow_le_64 {base : Nat} (h : 2 ≤ base) : 2 ^ 64 ≤ base ^ 64 := Nat.pow_le_pow_left h 64
/-- the digits with enough room for any long -/
def digs (base n : Nat) : List Nat := Sv24.digits 65 base n
theorem digs_eq {base n : Nat} (h2 : 2 ≤ base) (hn : n < 2 ^ 64) : digs base n = if n < base then [Sv24.digit n] else digs base (n / base) ++ [Sv24.digit (n % base)] := by
  have h64 : n < base ^ 64 := Nat.lt_of_lt_of_le hn (pow_le_64 h2)
  have h65 : n < base ^ (64 + 1) := Nat.lt_of_lt_of_le h64 (Nat.pow_le_pow_right (by omega) (by omega))
  unfold digs
  rw [digits_step h2 h65]
  split
  · rfl
  · rename_i h
    have hd : n / base < base ^ 64 := Nat.lt_of_le_of_lt (Nat.div_le_self _ _) h64
    rw [digits_fuel (g := 65) h2 hd (Nat.lt_of_lt_of_le hd (Nat.pow_le_pow_right (by omega) (by omega))) (by omega) (by omega)]
/-! ## numbers read -/
def worthZ (c : Int) : Int := if 48 ≤ c ∧ c ≤ 57 then c - 48 else if 97 ≤ c ∧ c ≤ 122 then c - 87 else if 65 ≤ c ∧ c ≤ 90 then c - 55 else -1
theorem worth_z {c : Int} (h : 0 ≤ c) : Sv24.digitOf c.toNat = if worthZ c < 0 then none else some (worthZ c).toNat := by
  have e0 : worthZ c = if 48 ≤ c ∧ c ≤ 57 then c - 48 else if 97 ≤ c ∧ c ≤ 122 then c - 87 else if 65 ≤ c ∧ c ≤ 90 then c - 55 else -1 := rfl
  generalize worthZ c = w at e0
  unfold Sv24.digitOf
  split
  · rw [if_pos (by omega)] at e0
    rw [if_neg (by omega)]
    congr 1; omega
  · rw [if_neg (by omega)] at e0
    split
    · rw [if_pos (by omega)] at e0
      rw [if_neg (by omega)]
      congr 1; omega
    · rw [if_neg (by omega)] at e0
      split
      · rw [if_pos (by omega)] at e0
        rw [if_neg (by omega)]
        congr 1; omega
      · rw [if_neg (by omega)] at e0
        rw [if_pos (by omega)]
theorem worth_lo {c : Int} : -1 ≤ worthZ c ∧ worthZ c ≤ 35 := by
  unfold worthZ; split <;> (try split) <;> (try split) <;> omega
/-- digits read from n on -/
def readZ (base : Int) : Int → List Int → Option Int
  | n, [] => some n
  | n, c :: r => if 0 ≤ worthZ c ∧ worthZ c < base then readZ base (base * n + worthZ c) r else none
theorem read_z {base : Int} (hb : 0 ≤ base) : ∀ {l : List Int} {n : Nat}, (∀ x ∈ l, (0 : Int) ≤ x) →
    (((l.map Int.toNat).mapM fun c => (Sv24.digitOf c).bind fun x => if x < base.toNat then some x else none).map fun l => ((l.foldl (fun n x => base.toNat * n + x) n : Nat) : Int)) = readZ base (n : Int) l
  | [], n, _ => rfl
  | c :: r, n, h => by
    have ih := fun m => read_z hb (l := r) (n := m) (fun x hx => h x (List.mem_cons_of_mem _ hx))
    have hc := h c List.mem_cons_self
    rw [List.map_cons, List.mapM_cons, worth_z hc, readZ]
    by_cases hw : worthZ c < 0
    · rw [if_pos hw, if_neg (by omega)]; rfl
    · rw [if_neg hw]
      by_cases hw2 : worthZ c < base
      · rw [if_pos (by omega)]
        have e : (Option.some (worthZ c).toNat).bind (fun x => if x < base.toNat then some x else none) = some (worthZ c).toNat := by
          show (if (worthZ c).toNat < base.toNat then some (worthZ c).toNat else none) = _
          rw [if_pos (by omega)]
        rw [e]
        have e2 := ih (base.toNat * n + (worthZ c).toNat)
        have e3 : ((base.toNat * n + (worthZ c).toNat : Nat) : Int) = base * (n : Int) + worthZ c := by
          rw [Int.natCast_add, Int.natCast_mul, Int.toNat_of_nonneg hb, Int.toNat_of_nonneg (by omega)]
        rw [e3] at e2
        rw [← e2]
        simp only [Option.pure_def, Option.bind_eq_bind, Option.bind_some]
        cases ((r.map Int.toNat).mapM fun c => (Sv24.digitOf c).bind fun x => if x < base.toNat then some x else none) <;> rfl
      · rw [if_neg (by omega)]
        have e : (Option.some (worthZ c).toNat).bind (fun x => if x < base.toNat then some x else none) = none := by
          show (if (worthZ c).toNat < base.toNat then some (worthZ c).toNat else none) = _
          rw [if_neg (by omega)]
        rw [e]; rfl
end My

namespace My
/-- one byte that fits, then a pattern -/
def stepM (fits : Nat → Bool) (k : List Nat → Bool) : List Nat → Bool
  | [] => false
  | d :: r => fits d && k r
/-- matching, told by the pattern -/
def mt : Nat → List Nat → List Nat → Bool
  | 0, _, t => t.isEmpty
  | f + 1, p, t => match p with
    | [] => t.isEmpty
    | 42 :: q => (List.range (t.length + 1)).any fun i => mt f q (t.drop i)
    | 63 :: q => stepM (fun _ => true) (mt f q) t
    | 92 :: c :: q => stepM (fun d => d == c) (mt f q) t
    | c :: q => stepM (fun d => d == c) (mt f q) t
theorem spread_len : ∀ (m : List Bool) (b : Bool), (Sv24.spread b m).length = m.length
  | [], _ => rfl
  | x :: r, b => by rw [Sv24.spread, List.length_cons, List.length_cons, spread_len r]
theorem spread_at : ∀ (m : List Bool) (b : Bool) (i : Nat), i < m.length → ((Sv24.spread b m).getD i false = true ↔ b = true ∨ ∃ j, j ≤ i ∧ m.getD j false = true)
  | [], _, _, h => by simp at h
  | x :: r, b, 0, _ => by
    rw [Sv24.spread]
    show (b || x) = true ↔ _
    rw [Bool.or_eq_true]
    constructor
    · rintro (h | h)
      · exact .inl h
      · exact .inr ⟨0, Nat.le_refl _, h⟩
    · rintro (h | ⟨j, hj, h⟩)
      · exact .inl h
      · have : j = 0 := by omega
        subst this
        exact .inr h
  | x :: r, b, i + 1, h => by
    rw [Sv24.spread]
    show (Sv24.spread (b || x) r).getD i false = true ↔ _
    rw [spread_at r (b || x) i (by simpa using h), Bool.or_eq_true]
    constructor
    · rintro ((h | h) | ⟨j, hj, h⟩)
      · exact .inl h
      · exact .inr ⟨0, by omega, h⟩
      · exact .inr ⟨j + 1, by omega, h⟩
    · rintro (h | ⟨j, hj, h⟩)
      · exact .inl (.inl h)
      · cases j with
        | zero => exact .inl (.inr h)
        | succ j => exact .inr ⟨j, by omega, h⟩
theorem onward_len {fits : Nat → Bool} {t : List Nat} {m : List Bool} (h : m.length = t.length + 1) : (Sv24.onward fits t m).length = t.length + 1 := by
  unfold Sv24.onward
  rw [List.length_cons, List.length_map, List.length_zip, h]
  omega
theorem onward_at {fits : Nat → Bool} {t : List Nat} {m : List Bool} (h : m.length = t.length + 1) (i : Nat) :
    (Sv24.onward fits t m).getD (i + 1) false = true ↔ ∃ d, t[i]? = some d ∧ m.getD i false = true ∧ fits d = true := by
  unfold Sv24.onward
  rw [List.getD_cons_succ, List.getD_eq_getElem?_getD, List.getElem?_map]
  cases ht : t[i]? with
  | none =>
    have : (t.zip m)[i]? = none := by
      rw [List.getElem?_eq_none_iff] at ht ⊢
      rw [List.length_zip]; omega
    rw [this]
    simp
  | some d =>
    have hi : i < t.length := (List.getElem?_eq_some_iff.1 ht).1
    have hm : m[i]? = some (m.getD i false) := by
      rw [List.getD_eq_getElem?_getD, List.getElem?_eq_getElem (by omega)]; rfl
    have : (t.zip m)[i]? = some (d, m.getD i false) := List.getElem?_zip_eq_some.2 ⟨ht, hm⟩
    rw [this]
    simp
/-- some marked place from which the pattern goes to the end -/
def Reach (t : List Nat) (m : List Bool) (k : List Nat → Bool) : Prop := ∃ i, i ≤ t.length ∧ m.getD i false = true ∧ k (t.drop i) = true
theorem reach_step {fits : Nat → Bool} {t : List Nat} {m : List Bool} {k : List Nat → Bool} (h : m.length = t.length + 1) :
    Reach t (Sv24.onward fits t m) k ↔ Reach t m (stepM fits k) := by
  constructor
  · rintro ⟨i, hi, h1, h2⟩
    cases i with
    | zero => simp [Sv24.onward] at h1
    | succ i =>
      obtain ⟨d, hd, hm, hf⟩ := (onward_at h i).1 h1
      refine ⟨i, by omega, hm, ?_⟩
      obtain ⟨hl, he⟩ := List.getElem?_eq_some_iff.1 hd
      rw [List.drop_eq_getElem_cons hl, he, stepM, hf, h2]; rfl
  · rintro ⟨i, hi, hm, h2⟩
    by_cases hl : i < t.length
    · rw [List.drop_eq_getElem_cons hl, stepM, Bool.and_eq_true] at h2
      exact ⟨i + 1, by omega, (onward_at h i).2 ⟨t[i], List.getElem?_eq_getElem hl, hm, h2.1⟩, h2.2⟩
    · rw [List.drop_of_length_le (by omega), stepM] at h2
      cases h2
theorem reach_star {t : List Nat} {m : List Bool} {k : List Nat → Bool} (h : m.length = t.length + 1) :
    Reach t (Sv24.spread false m) k ↔ Reach t m (fun u => (List.range (u.length + 1)).any fun i => k (u.drop i)) := by
  constructor
  · rintro ⟨i, hi, h1, h2⟩
    rcases (spread_at m false i (by omega)).1 h1 with h0 | ⟨j, hj, hm⟩
    · cases h0
    · refine ⟨j, by omega, hm, List.any_eq_true.2 ⟨i - j, List.mem_range.2 (by rw [List.length_drop]; omega), ?_⟩⟩
      rw [List.drop_drop]
      have e : j + (i - j) = i := by omega
      rw [e]; exact h2
  · rintro ⟨j, hj, hm, h2⟩
    obtain ⟨i, hi, h2⟩ := List.any_eq_true.1 h2
    rw [List.mem_range, List.length_drop] at hi
    rw [List.drop_drop] at h2
    exact ⟨j + i, by omega, (spread_at m false (j + i) (by omega)).2 (.inr ⟨j, by omega, hm⟩), h2⟩
theorem reach_end {t : List Nat} {m : List Bool} (h : m.length = t.length + 1) : m.getLastD false = true ↔ Reach t m List.isEmpty := by
  have e : m.getLastD false = m.getD t.length false := by
    cases m with
    | nil => simp at h
    | cons x r =>
      rw [List.getLastD_cons, List.getD_eq_getElem?_getD]
      rw [List.length_cons] at h
      have h' : r.length = t.length := by omega
      rw [← h', List.getLastD_eq_getLast?]
      cases r with
      | nil => rfl
      | cons y s =>
        rw [List.getLast?_eq_getElem?]
        simp
  rw [e]
  constructor
  · intro hm
    exact ⟨t.length, Nat.le_refl _, hm, by rw [List.drop_length]; rfl⟩
  · rintro ⟨i, hi, hm, h2⟩
    have : t.drop i = [] := List.isEmpty_iff.1 h2
    have := List.drop_eq_nil_iff.1 this
    have e : i = t.length := by omega
    exact e ▸ hm
theorem like_from {t : List Nat} : ∀ (f : Nat) (p : List Nat) (m : List Bool), m.length = t.length + 1 → p.length ≤ f →
    ((Sv24.likeFrom t f p m).getLastD false = true ↔ Reach t m (mt f p))
  | 0, p, m, h, hp => by
    rw [Sv24.likeFrom]
    have : p = [] := List.eq_nil_of_length_eq_zero (by omega)
    exact reach_end h
  | f + 1, p, m, h, hp => by
    unfold Sv24.likeFrom
    have hmt : mt (f + 1) p = fun t => mt (f + 1) p t := rfl
    rw [hmt]
    simp only [mt]
    split
    · exact reach_end h
    · rename_i q
      rw [like_from f q _ (by rw [spread_len, h]) (by simpa using hp)]
      exact reach_star h
    · rename_i q
      rw [like_from f q _ (onward_len h) (by simpa using hp)]
      exact reach_step h
    · rename_i c q
      rw [like_from f q _ (onward_len h) (by simp only [List.length_cons] at hp; omega)]
      exact reach_step h
    · rename_i c q n1 n2 n3
      rw [like_from f q _ (onward_len h) (by simpa using hp)]
      have e : (fun t => match c :: q with
          | [] => t.isEmpty
          | 42 :: q => (List.range (t.length + 1)).any fun i => mt f q (t.drop i)
          | 63 :: q => stepM (fun _ => true) (mt f q) t
          | 92 :: c :: q => stepM (fun d => d == c) (mt f q) t
          | c :: q => stepM (fun d => d == c) (mt f q) t) = stepM (fun d => d == c) (mt f q) := by
        funext u
        split
        · rename_i e; cases e
        · rename_i e; cases e; exact absurd rfl n1
        · rename_i e; cases e; exact absurd rfl n2
        · rename_i e; cases e; exact (n3 _ _ rfl rfl).elim
        · rename_i e; cases e; rfl
      rw [e]
      exact reach_step h
theorem like_mt (p t : List Nat) : Sv24.like p t = mt p.length p t := by
  rw [Bool.eq_iff_iff]
  unfold Sv24.like
  rw [like_from p.length p _ (by simp) (Nat.le_refl _)]
  constructor
  · rintro ⟨i, hi, hm, h⟩
    cases i with
    | zero => exact h
    | succ i =>
      exfalso
      rw [List.getD_cons_succ, List.getD_eq_getElem?_getD, List.getElem?_map] at hm
      cases hx : t[i]? with
      | none => rw [hx] at hm; cases hm
      | some d => rw [hx] at hm; cases hm
  · intro h
    exact ⟨0, Nat.zero_le _, rfl, h⟩
end My

namespace My
/-! ## hexadecimal -/
def hexZ (t : List Int) : List Int := t.flatMap fun c => [digZ (c / 16), digZ (c % 16)]
theorem digZ_nn {d : Int} (h : 0 ≤ d) : 0 ≤ digZ d := by unfold digZ; split <;> omega
theorem dig_nz {d : Int} (h : 0 ≤ d) : Sv24.digit d.toNat = (digZ d).toNat := by
  unfold Sv24.digit digZ; split <;> split <;> omega
theorem hex_z : ∀ {t : List Int}, Nn t → Sv24.hex (nz t) = nz (hexZ t) ∧ Nn (hexZ t)
  | [], _ => ⟨rfl, nn_nil⟩
  | c :: r, h => by
    obtain ⟨e, hn⟩ := hex_z h.tail
    have hc := h.head
    unfold Sv24.hex hexZ at *
    rw [nz_cons, List.flatMap_cons, List.flatMap_cons, e, ← nz_app]
    have h1 : 0 ≤ c / 16 := Int.ediv_nonneg hc (by decide)
    have h2 : 0 ≤ c % 16 := Int.emod_nonneg _ (by decide)
    refine ⟨?_, Nn.app ?_ hn⟩
    · show [Sv24.digit (c.toNat / 16), Sv24.digit (c.toNat % 16)] ++ _ = [(digZ (c / 16)).toNat, (digZ (c % 16)).toNat] ++ _
      rw [← dig_nz h1, ← dig_nz h2]
      have e1 : c.toNat / 16 = (c / 16).toNat := by omega
      have e2 : c.toNat % 16 = (c % 16).toNat := by omega
      rw [e1, e2]
    · intro x hx
      rcases List.mem_cons.1 hx with rfl | hx
      · exact digZ_nn h1
      · rcases List.mem_singleton.1 hx with rfl
        exact digZ_nn h2
theorem hex_eq {t : List Int} (ht : Nn t) : PySv24.hex_of t = tell (hexZ t) := by
  show (Sv24.text (Sv24.hex (nz t))).v :: (Sv24.text (Sv24.hex (nz t))).l = _
  rw [(hex_z ht).1]
  exact told (hex_z ht).2
def unhexZ : List Int → Option (List Int)
  | [] => some []
  | [_] => none
  | a :: b :: r => if (0 ≤ worthZ a ∧ worthZ a < 16) ∧ (0 ≤ worthZ b ∧ worthZ b < 16) then (unhexZ r).map fun l => (16 * worthZ a + worthZ b) :: l else none
theorem unhex_z : ∀ {t : List Int}, Nn t → Sv24.unhex (nz t) = (unhexZ t).map nz ∧ ∀ l, unhexZ t = some l → Nn l
  | [], _ => ⟨rfl, fun l h => by cases h; exact nn_nil⟩
  | [_], _ => ⟨rfl, fun l h => by cases h⟩
  | a :: b :: r, h => by
    obtain ⟨e, hn⟩ := unhex_z h.tail.tail
    have ha := h.head
    have hb := h.tail.head
    rw [nz_cons, nz_cons, Sv24.unhex, unhexZ, worth_z ha, worth_z hb, e]
    by_cases h1 : worthZ a < 0
    · rw [if_pos h1, if_neg (show ¬((0 ≤ worthZ a ∧ worthZ a < 16) ∧ (0 ≤ worthZ b ∧ worthZ b < 16)) by omega)]
      exact ⟨rfl, fun l h => by cases h⟩
    · rw [if_neg h1]
      by_cases h2 : worthZ b < 0
      · rw [if_pos h2, if_neg (show ¬((0 ≤ worthZ a ∧ worthZ a < 16) ∧ (0 ≤ worthZ b ∧ worthZ b < 16)) by omega)]
        exact ⟨rfl, fun l h => by cases h⟩
      · rw [if_neg h2]
        show ((if 16 ≤ (worthZ a).toNat ∨ 16 ≤ (worthZ b).toNat then none else (Option.map nz (unhexZ r)).map fun l => (16 * (worthZ a).toNat + (worthZ b).toNat) :: l) = _) ∧ _
        by_cases h3 : worthZ a < 16 ∧ worthZ b < 16
        · rw [if_neg (by omega), if_pos (by omega)]
          cases hr : unhexZ r with
          | none => exact ⟨rfl, fun l h => by cases h⟩
          | some l =>
            refine ⟨?_, fun l' h' => ?_⟩
            · show some ((16 * (worthZ a).toNat + (worthZ b).toNat) :: nz l) = some (nz ((16 * worthZ a + worthZ b) :: l))
              rw [nz_cons]
              congr 2
              omega
            · have : (16 * worthZ a + worthZ b) :: l = l' := Option.some.inj h'
              subst this
              intro x hx
              rcases List.mem_cons.1 hx with rfl | hx
              · omega
              · exact hn l hr x hx
        · rw [if_pos (by omega), if_neg (by omega)]
          exact ⟨rfl, fun l h => by cases h⟩
theorem unhex_eq {t : List Int} (ht : Nn t) : PySv24.unhex t = tell ((unhexZ t).getD []) := by
  show (Sv24.text ((Sv24.unhex (nz t)).getD [])).v :: (Sv24.text ((Sv24.unhex (nz t)).getD [])).l = _
  obtain ⟨e, hn⟩ := unhex_z ht
  rw [e]
  cases hr : unhexZ t with
  | none => exact told (l := []) nn_nil
  | some l => exact told (l := l) (hn l hr)
/-! ## several texts -/
def tells (l : List (List Int)) : List Int := (l.length : Int) :: l.flatMap fun b => (b.length : Int) :: b
theorem texts_z : ∀ {l : List (List Int)}, (∀ x ∈ l, Nn x) → (Sv24.texts (l.map nz)).v :: (Sv24.texts (l.map nz)).l = tells l := by
  intro l h
  show (((l.map nz).length : Nat) : Int) :: ((l.map nz).flatMap fun b => ((b.length : Nat) : Int) :: Sv24.numbers b) = _
  unfold tells
  rw [List.length_map, List.flatMap_map]
  congr 1
  induction l with
  | nil => rfl
  | cons a r ih =>
    rw [List.flatMap_cons, List.flatMap_cons, ih (fun x hx => h x (List.mem_cons_of_mem _ hx)), nz_len, nz_back (h a List.mem_cons_self)]
theorem split_eq {c : Int} {t : List Int} (ht : Nn t) : PySv24.split c t = if c < 0 ∨ 255 < c then [-2] else tells (betweenZ (t.length + 1) t [c] []) := by
  show (let y := (if c < 0 ∨ 255 < c then Sv24.ok (-2) else Sv24.texts (Sv24.split (nz t) c.toNat)); y.v :: y.l) = _
  split
  · rfl
  · have hc : 0 ≤ c := by omega
    have e := between_z (t.length + 1) ht (nn_one hc) nn_nil
    have e2 : Sv24.split (nz t) c.toNat = (betweenZ (t.length + 1) t [c] []).map nz := by
      unfold Sv24.split
      rw [nz_len]
      exact e.1
    dsimp only
    rw [e2]
    exact texts_z e.2
theorem merge_nz : ∀ {l r : List (List Int)}, (∀ x ∈ l, Nn x) → (∀ x ∈ r, Nn x) →
    List.merge (l.map nz) (r.map nz) (fun a b => !Sv24.before b a) = (List.merge l r (fun a b => !beforeZ b a)).map nz := by
  intro l r hl hr
  rw [List.map_merge]
  intro a ha b hb
  rw [before_z (hr b hb) (hl a ha)]
theorem sort_z {rows : List (List Int)} (h : ∀ x ∈ rows, Nn x) : (rows.map nz).mergeSort (fun a b => !Sv24.before b a) = (rows.mergeSort (fun a b => !beforeZ b a)).map nz := by
  rw [List.map_mergeSort]
  intro a ha b hb
  rw [before_z (h b hb) (h a ha)]
theorem sort_eq {rows : List (List Int)} (h : ∀ x ∈ rows, Nn x) : PySv24.sort rows = tells (rows.mergeSort (fun a b => !beforeZ b a)) := by
  show (Sv24.texts ((rows.map nz).mergeSort (fun a b => !Sv24.before b a))).v :: (Sv24.texts ((rows.map nz).mergeSort (fun a b => !Sv24.before b a))).l = _
  rw [sort_z h]
  exact texts_z (fun x hx => h x (List.mem_mergeSort.1 hx))
/-! ## numbers -/
def numberZ (base : Int) (t : List Int) : List Int :=
  if base < 2 ∨ 36 < base then [-2] else
  let d := if t.head? = some 45 ∨ t.head? = some 43 then t.drop 1 else t
  if d = [] then [-3] else
  match readZ base 0 d with
  | none => [-3]
  | some n => let z := if t.head? = some 45 then -n else n
    if z < -(2 ^ 63) ∨ 2 ^ 63 ≤ z then [-7] else [0, z]
theorem head_z {t : List Int} (ht : Nn t) {k : Nat} : ((nz t).head? = some k) ↔ t.head? = some (k : Int) := by
  cases t with
  | nil => simp [nz, Sv24Neutral.n]
  | cons a r =>
    have := ht.head
    simp only [nz_cons, List.head?_cons, Option.some.injEq]
    omega
theorem number_eq {base : Int} {t : List Int} (ht : Nn t) : PySv24.number base t = numberZ base t := by
  show (let y := (if base < 2 ∨ 36 < base then Sv24.ok (-2) else (match Sv24.number (nz t) base.toNat with
    | none => Sv24.ok (-3)
    | some z => if z < -(2 ^ 63) ∨ 2 ^ 63 ≤ z then Sv24.ok (-7) else ⟨0, [z]⟩)); y.v :: y.l) = _
  unfold numberZ
  by_cases hb : base < 2 ∨ 36 < base
  · rw [if_pos hb, if_pos hb]; rfl
  · rw [if_neg hb, if_neg hb]
    have hneg : ((nz t).head? == some 45) = decide (t.head? = some 45) := by
      rw [Bool.eq_iff_iff, beq_iff_eq, decide_eq_true_eq, head_z ht]; rfl
    have hpos : ((nz t).head? = some 43) = (t.head? = some 43) := propext (head_z ht)
    have e : Sv24.number (nz t) base.toNat = (let d := if t.head? = some 45 ∨ t.head? = some 43 then t.drop 1 else t
        if d = [] then none else (readZ base 0 d).map fun n => if t.head? = some 45 then -n else n) := by
      unfold Sv24.number
      dsimp only
      rw [hneg]
      simp only [decide_eq_true_eq, hpos]
      have e1 : (if t.head? = some 45 ∨ t.head? = some 43 then (nz t).drop 1 else nz t) = nz (if t.head? = some 45 ∨ t.head? = some 43 then t.drop 1 else t) := by
        split
        · exact nz_drop 1 t
        · rfl
      rw [e1]
      have hn : Nn (if t.head? = some 45 ∨ t.head? = some 43 then t.drop 1 else t) := by
        split
        · exact ht.drop 1
        · exact ht
      generalize (if t.head? = some 45 ∨ t.head? = some 43 then t.drop 1 else t) = d at hn
      simp only [nz_eqnil]
      split
      · rfl
      · rw [show (0 : Int) = ((0 : Nat) : Int) from rfl, ← read_z (by omega) hn, Option.map_map]
        rfl
    rw [e]
    dsimp only
    generalize (if t.head? = some 45 ∨ t.head? = some 43 then t.drop 1 else t) = d
    by_cases hd : d = []
    · rw [if_pos hd, if_pos hd]; rfl
    · rw [if_neg hd, if_neg hd]
      cases readZ base 0 d with
      | none => rfl
      | some n =>
        show (let y := (if (if t.head? = some 45 then -n else n) < -(2 ^ 63) ∨ 2 ^ 63 ≤ (if t.head? = some 45 then -n else n) then Sv24.ok (-7) else ⟨0, [if t.head? = some 45 then -n else n]⟩); y.v :: y.l) = _
        dsimp only
        split <;> split <;> rfl
theorem nz_numbers (l : List Nat) : nz (Sv24.numbers l) = l := by
  unfold nz Sv24Neutral.n Sv24.numbers
  rw [List.map_map]
  conv => rhs; rw [← List.map_id l]
  rfl
theorem nn_numbers (l : List Nat) : Nn (Sv24.numbers l) := by
  intro x hx
  obtain ⟨y, _, rfl⟩ := List.mem_map.1 hx
  exact Int.natCast_nonneg y
theorem text_told (l : List Nat) : (Sv24.text l).v :: (Sv24.text l).l = tell (Sv24.numbers l) := by
  have := told (nn_numbers l)
  rw [nz_numbers] at this
  exact this
theorem digits_eq {v base : Int} : PySv24.digits v base = tell (if base < 2 ∨ 36 < base then [] else (if v < 0 then [45] else []) ++ Sv24.numbers (digs base.toNat v.natAbs)) := by
  show (Sv24.text (if base < 2 ∨ 36 < base then [] else Sv24.written v base.toNat)).v :: (Sv24.text (if base < 2 ∨ 36 < base then [] else Sv24.written v base.toNat)).l = _
  rw [text_told]
  congr 1
  split
  · rfl
  · unfold Sv24.written digs Sv24.numbers
    rw [List.map_append]
    congr 1
    split <;> rfl
theorem hash_eq {t : List Int} : PySv24.hash_of t = [((Sv24.hash (nz t) : Nat) : Int)] := rfl
theorem like_eq {t p : List Int} : PySv24.like t p = [if mt p.length (nz p) (nz t) = true then 1 else 0] := by
  show [(if Sv24.like (nz p) (nz t) = true then 1 else 0 : Int)] = _
  rw [like_mt, nz_len]
end My

/- a < b of two lists of whole numbers: a step of the walk (put behind SpecOverInts; open PySem PySem.W stands ahead) -/
namespace My
section
open PySem PySem.W
open PySem.MeetsSeq PySem.MeetsSeq2 PySem.MeetsSeq3 PySem.SeqAt
open PySem.AutoSeq1 (wpAny_loadPart')
set_option maxHeartbeats 4000000 in
theorem lt_loop (l b : Addr) (xs ys : List Value) (ns ms : List Int) (n n2 : Nat) (dd dd2 : Option Addr) (sl sl2 : Array (Option Value))
    (hx : PyProof.Rows.IntsAre xs ns) (hy : PyProof.Rows.IntsAre ys ms) (k : Nat) :
    ∀ i : Nat, i ≤ xs.length → i ≤ ys.length → xs.length - i = k → Meets (Builtin.«list.__eq__.loop» ⟨[.ref l, .ref b, rawInt i, rawInt 0], []⟩)
      (fun _ R s => s.heap.get? l = some { cls := .type "list", dict := dd, data := .seq xs.toArray n, slots := sl } ∧ s.heap.get? b = some { cls := .type "list", dict := dd2, data := .seq ys.toArray n2, slots := sl2 } ∧
        R (.ok (.ret (.bool (beforeZ (ns.drop i) (ms.drop i))))) s) := by
  have lx := hx.length
  have ly := hy.length
  induction k with
  | zero =>
    intro i hi hi' hk prog w A R s h
    obtain ⟨hp, g, d, tk, os⟩ := s; obtain ⟨hl, hb, h⟩ := h
    wp_walk using wpAny_loadPart' hl, wpAny_loadPart' hb
    have hi1 : xs.toArray[((i : Nat) : Int).toNat]? = none := by simp; omega
    have hd : ns.drop i = [] := by simp; omega
    have hz : beforeZ (ns.drop i) (ms.drop i) = decide (xs.toArray.size < ys.toArray.size) := by
      rw [hd]
      simp only [List.size_toArray]
      by_cases hlt : i < ms.length
      · rw [List.drop_eq_getElem_cons hlt]
        simp [beforeZ]; omega
      · rw [List.drop_of_length_le (by omega)]
        simp [beforeZ]; omega
    rw [hz] at h
    rw [hi1]
    wp_walk using wpAny_loadPart' hl, wpAny_loadPart' hb
    exact h
  | succ k ih =>
    intro i hi hi' hk prog w A R s h
    obtain ⟨hp, g, d, tk, os⟩ := s; obtain ⟨hl, hb, h⟩ := h
    wp_walk using wpAny_loadPart' hl, wpAny_loadPart' hb
    have hlt : i < xs.length := by omega
    have hi1 : xs.toArray[((i : Nat) : Int).toNat]? = some xs[i] := by simp [hlt]
    obtain ⟨a, t, ea, ha⟩ := PyProof.Rows.IntsAre.at hx i xs[i] (List.getElem?_eq_getElem hlt)
    rw [hi1]
    by_cases hlt2 : i < ys.length
    · have hi2 : ys.toArray[((i : Nat) : Int).toNat]? = some ys[i] := by simp [hlt2]
      obtain ⟨c, u, ec, hc'⟩ := PyProof.Rows.IntsAre.at hy i ys[i] (List.getElem?_eq_getElem hlt2)
      have hc : ((i : Int) + 1) = ((i + 1 : Nat) : Int) := by push_cast; rfl
      have hna : ns.drop i = a :: ns.drop (i + 1) := by
        obtain ⟨h1, h2⟩ := List.getElem?_eq_some_iff.1 ha
        rw [List.drop_eq_getElem_cons h1, h2]
      have hmc : ms.drop i = c :: ms.drop (i + 1) := by
        obtain ⟨h1, h2⟩ := List.getElem?_eq_some_iff.1 hc'
        rw [List.drop_eq_getElem_cons h1, h2]
      rw [hna, hmc, beforeZ] at h
      rw [hi2, ea, ec]
      refine wpAny_bind (EqGives.int a c t u prog w _ _ _ _ ?_)
      cases hb' : (a == c) with
      | true =>
        have hac : a = c := by simpa using hb'
        rw [hb'] at h
        wp_walk
        rw [hc]
        exact ⟨plainId_quiet plain_eq_loop _, codeAny_builtin entry_eq_loop (by
          rw [Around.under_plainId plain_eq_loop _]
          exact ih (i + 1) (by omega) (by omega) (by omega) prog w A R _ ⟨hl, hb, by
            have : decide (a < c) = false := by simp; omega
            rw [this] at h
            simpa using h⟩)⟩
      | false =>
        rw [hb'] at h
        wp_walk using wpAny_loadPart' hl, wpAny_loadPart' hb
        rw [hi1, hi2, ea, ec]
        refine wpAny_bind (richCompare_gives (op := .Lt) (typeIs_int _ _ _) (typeIs_int _ _ _) F.slot_int_lt F.entry_int_lt (F.args_int_lt_2 _ _) (gives_int_lt _ _ _ _) (fun x => nomatch x) ?_)
        show wpAny (model prog w) A.in1 (ret (Value.bool (decide (a < c)))) _ _ _
        wp_walk
        simpa using h
    · have hi2 : ys.toArray[((i : Nat) : Int).toNat]? = none := by simp; omega
      have hmc : ms.drop i = [] := by simp; omega
      have hz : beforeZ (ns.drop i) (ms.drop i) = decide (xs.toArray.size < ys.toArray.size) := by
        rw [hmc]
        have : beforeZ (ns.drop i) [] = false := by cases ns.drop i <;> rfl
        rw [this]
        simp only [List.size_toArray]
        simp; omega
      rw [hz] at h
      rw [hi2]
      wp_walk using wpAny_loadPart' hl, wpAny_loadPart' hb
      exact h
theorem list_lt (l b : Addr) (xs ys : List Value) (ns ms : List Int) (n n2 : Nat) (dd dd2 : Option Addr) (sl sl2 : Array (Option Value))
    (hx : PyProof.Rows.IntsAre xs ns) (hy : PyProof.Rows.IntsAre ys ms) :
    Meets (Builtin.«list.__lt__» ⟨[.ref l, .ref b], []⟩)
      (fun _ R s => s.heap.get? l = some { cls := .type "list", dict := dd, data := .seq xs.toArray n, slots := sl } ∧ s.heap.get? b = some { cls := .type "list", dict := dd2, data := .seq ys.toArray n2, slots := sl2 } ∧
        R (.ok (.ret (.bool (beforeZ ns ms)))) s) := by
  intro prog w A R s h
  obtain ⟨hp, g, d, tk, os⟩ := s; obtain ⟨hl, hb, h⟩ := h
  have f3 := AutoSeq1.sub_list_list
  wp_walk using wpAny_loadPart' hl, wpAny_loadPart' hb
  exact ⟨plainId_quiet plain_eq_loop _, codeAny_builtin entry_eq_loop (by
    rw [Around.under_plainId plain_eq_loop _]
    exact lt_loop l b xs ys ns ms n n2 dd dd2 sl sl2 hx hy _ 0 (Nat.zero_le _) (Nat.zero_le _) rfl prog w A R _ ⟨hl, hb, h⟩)⟩
theorem lt_ints {prog : Program} {w : World} {A : Around} {E : Value → Shared → Prop} {s : Shared} {a b : Addr} {xs ys : List Value} {ns ms : List Int} {Q : Value → Shared → Prop}
    (ha : s.heap.IsList a xs.toArray) (hb : s.heap.IsList b ys.toArray) (hi : PyProof.Rows.IntsAre xs ns) (hj : PyProof.Rows.IntsAre ys ms) (hu : A.units + 64 < cLine) (h : Q (.bool (beforeZ ns ms)) s) :
    wpAny (model prog w) A (compareOp .Lt (.ref a) (.ref b)) Q E s := by
  obtain ⟨⟨cls, dd, data, sl⟩, ho, hc, n, hd⟩ := id ha
  obtain ⟨⟨cls2, dd2, data2, sl2⟩, ho2, hc2, n2, hd2⟩ := id hb
  simp only at hc hd hc2 hd2
  subst hc hd hc2 hd2
  show wpAny _ A (richCompare .Lt _ _) Q E s
  exact richCompare_meets_room (op := .Lt) ⟨_, ho, rfl⟩ ⟨_, ho2, rfl⟩ F.slot_list_lt F.entry_list_lt (F.args_list_lt_2 _ _) (list_lt a b xs ys ns ms n n2 dd dd2 sl sl2 hi hj)
    ⟨ho, ho2, show Value.bool (beforeZ ns ms) ≠ Value.notImplemented ∧ Q (.bool (beforeZ ns ms)) s from ⟨(fun x => nomatch x), h⟩⟩ (by omega)
end
end My

/- xs.extend(ys), both made by the program, whole numbers: a step of the walk -/
namespace My
section
open PySem PySem.W PySem.Calls PyProof.Rows PySem.Spec
variable {prog : Program} {w : World} {A : Around} {E : Value → Shared → Prop} {s : Shared} {h₀ : Heap} {L : Addr} {m : Str → Option Value}
theorem ext_K {Q : Value → Shared → Prop} {D b : Addr} {news news' : List (Addr × Obj)} {ws vs : List Value} {n n2 : Nat} {ns ms : List Int} (F : Fr h₀ L s.heap m) (N : News h₀ L s.heap news)
    (hb : (b, listOf (List.toArray vs) n2) ∈ news) (U : Upd D (listOf (List.toArray ws) n) (listOf (List.toArray (ws ++ vs)) (n + 1)) news news') (hi : IntsAre ws ns) (hj : IntsAre vs ms)
    (hne : ms.length ≠ 0) (hsz : ns.length + ms.length ≤ sizeLine)
    (h : ∀ h', Fr h₀ L h' m → News h₀ L h' news' → IntsAre (ws ++ vs) (ns ++ ms) → Q .none { s with heap := h' }) : wpAny (model prog w) A (call (.builtin "list.extend") [.ref D, .ref b]) Q E s := by
  have h1 := hi.length
  have h2 := hj.length
  have hz : ws.toArray.size + vs.toArray.size ≤ sizeLine := by
    rw [List.size_toArray, List.size_toArray, h1, h2]; exact hsz
  refine kl_extend F N hb rfl (by simpa [h2] using hne) (by simpa using U) (extend_door hz) (by simpa using Nat.le_trans (Nat.le_add_right _ _) hz) (Nat.le_succ_of_le hz) fun h' F' N' => h h' F' N' (IntsAre.append hi hj)
end
end My

/- for x in xs, where a turn changes objects of the ledger and no name but x: told by what holds of the ledger -/
namespace My
section
open PySem PySem.W PySem.Calls PyProof.Rows PySem.Spec
abbrev Led := List (Addr × Obj)
def LpEnd (h₀ : Heap) (L : Addr) (x : Str) (m₀ : Str → Option Value) (I : Addr) (it : Obj) (Jn : Led → Prop) (s₁ s₂ : Shared) : Prop :=
  ∃ h' tk m' news', s₂ = { s₁ with heap := h', toks := tk } ∧ Fr h₀ L h' m' ∧ News h₀ L h' ((I, it) :: news') ∧ (∀ p ∈ news', p.1 ≠ I) ∧ (∀ z, z ≠ x → m' z = m₀ z) ∧ Jn news'
def LpPost (h₀ : Heap) (L : Addr) (x : Str) (m₀ : Str → Option Value) (I : Addr) (it : Obj) (Jn : Led → Prop) (s₁ : Shared) (Q : Flow → Shared → Prop) (f : Flow) (s₂ : Shared) : Prop :=
  match f with
  | .ret v => Q (.ret v) s₂
  | .brk => Q .next s₂
  | _ => LpEnd h₀ L x m₀ I it Jn s₁ s₂
theorem LpEnd.intro {h₀ h' : Heap} {L I : Addr} {x : Str} {m₀ m' : Str → Option Value} {it : Obj} {Jn : Led → Prop} {s₁ : Shared} {tk : Nat} {all : Led} (news' : Led)
    (F : Fr h₀ L h' m') (N : News h₀ L h' all) (hI : (I, it) ∈ all) (hn : ∀ p ∈ news', p ∈ all) (ho : ∀ p ∈ news', p.1 ≠ I) (e : ∀ z, z ≠ x → m' z = m₀ z) (hj : Jn news') :
    LpEnd h₀ L x m₀ I it Jn s₁ { s₁ with heap := h', toks := tk } :=
  ⟨h', tk, m', news', rfl, F, fun p hq => by
    rcases List.mem_cons.mp hq with rfl | hq
    · exact N _ hI
    · exact N p (hn p hq), ho, e, hj⟩
theorem lpPost_next {h₀ : Heap} {L I : Addr} {x : Str} {m₀ : Str → Option Value} {it : Obj} {Jn : Led → Prop} {s₁ s₂ : Shared} {Q : Flow → Shared → Prop}
    (h : LpEnd h₀ L x m₀ I it Jn s₁ s₂) : LpPost h₀ L x m₀ I it Jn s₁ Q .next s₂ := h
variable {prog : Program} {w : World} {A : Around} {E : Value → Shared → Prop} {s : Shared} {env : Env} {h₀ : Heap} {x : Str} {body : List Stmt} {Q : Flow → Shared → Prop}
theorem lp_map {m₀ m₁ : Str → Option Value} {v : Option Value} (h : ∀ z, z ≠ x → m₁ z = m₀ z) : (fun y => if y = x then v else m₁ y) = fun y => if y = x then v else m₀ y := by
  funext y
  by_cases e : y = x
  · rw [if_pos e, if_pos e]
  · rw [if_neg e, if_neg e, h y e]
theorem lp_any {l : Addr} {vs : List Value} {m₀ : Str → Option Value} {news₀ : Led} (J : Nat → Led → Prop)
    (hh : A.handled = none) (F : Fr h₀ env.locals s.heap m₀) (N : News h₀ env.locals s.heap news₀) (hls : s.heap.IsList l vs.toArray) (hlL : l ≠ env.locals)
    (hl : (∃ o, h₀.get? l = some o) ∨ ∃ o : Obj, ∀ i news, J i news → (l, o) ∈ news) (hJ : J 0 news₀)
    (turn : ∀ i v news₁ h tk I it, vs[i]? = some v → J i news₁ → it.cls = .type "list_iterator" → (∀ p ∈ news₁, p.1 ≠ I) →
      Fr h₀ env.locals h (fun y => if y = x then some v else m₀ y) → News h₀ env.locals h ((I, it) :: news₁) →
      wpAny (model prog w) A (execs body env) (LpPost h₀ env.locals x m₀ I it (J (i + 1)) { s with heap := h, toks := tk } Q) E { s with heap := h, toks := tk })
    (done : ∀ (u : Str → Option Value) news₁ h tk, J vs.length news₁ → Fr h₀ env.locals h (fun y => if y = x then u y else m₀ y) → News h₀ env.locals h news₁ → Q .next { s with heap := h, toks := tk }) :
    wpAny (model prog w) A (pyIter (.ref l)) (fun it s₂ => LoopAtV prog w A h₀ env x body Q E it s₂) E s := by
  have hlt : l < s.heap.objs.size := by obtain ⟨_, e, _⟩ := hls; exact Heap.lt_size e
  have hne : l ≠ s.heap.objs.size := Nat.ne_of_lt hlt
  refine wpAny_pyIter_list hls ?_
  have W := Walks.list (prog := prog) (w := w) hh s.heap.objs.size l hne vs.toArray
  have hlen : vs.toArray.size = vs.length := by simp
  rw [hlen] at W
  refine ⟨_, _, _, vs.length, _, _, m₀, news₀, (fun i m nx => (∀ z, z ≠ x → m z = m₀ z) ∧ J i nx), rfl, W, ?_, ?_, ?_, ⟨⟨_, Heap.get?_push_size _ rfl, rfl, rfl⟩, hls.at fun o e => Heap.get?_push_of_some _ e⟩, F.push _, (fun p hp => ⟨Heap.get?_push_of_some _ (N p hp).1, (N p hp).2⟩),
    ⟨fun _ _ => rfl, hJ⟩, ?_, ?_⟩
  · intro hm
    rcases List.mem_cons.mp hm with e | hm
    · exact absurd F.ns.lt (e ▸ Nat.lt_irrefl _)
    · exact hlL (List.mem_singleton.mp hm).symm
  · intro b hb
    rw [List.mem_singleton.mp hb]
    exact next_is_new F
  · intro p hp hI
    exact absurd (Heap.lt_size (N p hp).1) ((List.mem_singleton.mp hI) ▸ Nat.lt_irrefl _)
  · rintro i v m₁ news₁ s₁ own ⟨hh', tk', rfl⟩ hin hP ⟨f3, hj₁⟩ hoff hown hget hfp hst F₁ N₁
    obtain ⟨it, hit, hic, _⟩ := hst.1
    have hIown : (s.heap.objs.size, it) ∈ own := hfp _ List.mem_cons_self (next_is_new F) it hit
    have N₂ : News h₀ env.locals hh' ((s.heap.objs.size, it) :: news₁) := fun p hp => by
      rcases List.mem_cons.mp hp with rfl | hp
      · exact N₁ _ (List.mem_append_left _ hIown)
      · exact N₁ _ (List.mem_append_right _ hp)
    have hoff' : ∀ p ∈ news₁, p.1 ≠ s.heap.objs.size := fun p hp q => hoff p hp (List.mem_singleton.mpr q)
    refine wpAny_mono (turn i v news₁ hh' tk' s.heap.objs.size it (by simpa using hP) hj₁ hic hoff' (by rw [← lp_map f3]; exact F₁) N₂) (fun f s₂ p => ?_) fun _ _ e => e
    have fin : LpEnd h₀ env.locals x m₀ s.heap.objs.size it (J (i + 1)) { s with heap := hh', toks := tk' } s₂ →
        LoopStepU h₀ env.locals [s.heap.objs.size] own (fun m nx => (∀ z, z ≠ x → m z = m₀ z) ∧ J (i + 1) nx) { s with heap := hh', toks := tk' } .next s₂ := by
      rintro ⟨h', tk, m', news', e', F', N', ho', g3, hp'⟩
      refine ⟨rfl, h', tk, m', news', e', F', fun p hp => ?_, fun p hp q => ho' p hp (List.mem_singleton.mp q), g3, hp'⟩
      rcases List.mem_append.mp hp with h | h
      · have h2 : hh'.get? p.1 = some p.2 := hget p h
        rcases List.mem_cons.mp (hown p h) with h1 | h1
        · rw [h1, hit] at h2
          have h3 : p = (s.heap.objs.size, it) := Prod.ext h1 (Option.some.inj h2).symm
          rw [h3]
          exact N' _ List.mem_cons_self
        · have h1 := List.mem_singleton.mp h1
          have z := (N₁ p (List.mem_append_left _ h)).2.2
          rcases hl with ⟨o, ho⟩ | ⟨o, ho⟩
          · rw [h1, ho] at z
            cases z
          · have y1 := (N₂ _ (List.mem_cons_of_mem _ (ho i news₁ hj₁))).1
            have y1 : hh'.get? l = some o := y1
            rw [h1, y1] at h2
            have h3 : p = (l, o) := Prod.ext h1 (Option.some.inj h2).symm
            rw [h3]
            exact N' _ (List.mem_cons_of_mem _ (ho (i + 1) news' hp'))
      · exact N' p (List.mem_cons_of_mem _ h)
    cases f with
    | ret v => exact .ret p
    | brk => exact .brk p
    | next => exact .next (fin p)
    | cont => exact .cont (fin p)
  · rintro h' tk m' news' F' N' _ ⟨f3, hj₁⟩
    refine done m' news' h' tk hj₁ ?_ N'
    have em : (fun y => if y = x then m' y else m₀ y) = m' := by
      funext y
      by_cases e : y = x
      · rw [if_pos e]
      · rw [if_neg e, f3 y e]
    rw [em]
    exact F'
theorem lp_base {l : Addr} {vs : List Value} {m₀ : Str → Option Value} {news₀ : Led} (J : Nat → Led → Prop)
    (hh : A.handled = none) (F : Fr h₀ env.locals s.heap m₀) (N : News h₀ env.locals s.heap news₀) (hl : h₀.IsList l vs.toArray) (hJ : J 0 news₀)
    (turn : ∀ i v news₁ h tk I it, vs[i]? = some v → J i news₁ → it.cls = .type "list_iterator" → (∀ p ∈ news₁, p.1 ≠ I) →
      Fr h₀ env.locals h (fun y => if y = x then some v else m₀ y) → News h₀ env.locals h ((I, it) :: news₁) →
      wpAny (model prog w) A (execs body env) (LpPost h₀ env.locals x m₀ I it (J (i + 1)) { s with heap := h, toks := tk } Q) E { s with heap := h, toks := tk })
    (done : ∀ (u : Str → Option Value) news₁ h tk, J vs.length news₁ → Fr h₀ env.locals h (fun y => if y = x then u y else m₀ y) → News h₀ env.locals h news₁ → Q .next { s with heap := h, toks := tk }) :
    wpAny (model prog w) A (pyIter (.ref l)) (fun it s₂ => LoopAtV prog w A h₀ env x body Q E it s₂) E s := by
  obtain ⟨o, ho, _⟩ := id hl
  have hlL : l ≠ env.locals := fun e => absurd (Heap.lt_size ho) (by rw [e]; exact Nat.not_lt.mpr F.above)
  exact lp_any J hh F N (hl.at fun o e => F.keep l o e) hlL (.inl ⟨o, ho⟩) hJ turn done
theorem lp_made {l : Addr} {vs : List Value} {nn : Nat} {m₀ : Str → Option Value} {news₀ : Led} (J : Nat → Led → Prop)
    (hh : A.handled = none) (F : Fr h₀ env.locals s.heap m₀) (N : News h₀ env.locals s.heap news₀) (hl : ∀ i news, J i news → (l, listOf (List.toArray vs) nn) ∈ news) (hJ : J 0 news₀)
    (turn : ∀ i v news₁ h tk I it, vs[i]? = some v → J i news₁ → it.cls = .type "list_iterator" → (∀ p ∈ news₁, p.1 ≠ I) →
      Fr h₀ env.locals h (fun y => if y = x then some v else m₀ y) → News h₀ env.locals h ((I, it) :: news₁) →
      wpAny (model prog w) A (execs body env) (LpPost h₀ env.locals x m₀ I it (J (i + 1)) { s with heap := h, toks := tk } Q) E { s with heap := h, toks := tk })
    (done : ∀ (u : Str → Option Value) news₁ h tk, J vs.length news₁ → Fr h₀ env.locals h (fun y => if y = x then u y else m₀ y) → News h₀ env.locals h news₁ → Q .next { s with heap := h, toks := tk }) :
    wpAny (model prog w) A (pyIter (.ref l)) (fun it s₂ => LoopAtV prog w A h₀ env x body Q E it s₂) E s := by
  have hm := N _ (hl 0 news₀ hJ)
  exact lp_any J hh F N ⟨_, hm.1, rfl, nn, rfl⟩ hm.2.1 (.inr ⟨_, hl⟩) hJ turn done
end
end My

/- a list of rows, each a list of whole numbers that the program made -/
namespace My
section
open PySem PySem.W PySem.Calls PyProof.Rows PySem.Spec
structure Row where
  a : Addr
  ws : List Value
  c : Nat
  ns : List Int
def rEnt (r : Row) : Addr × Obj := (r.a, listOf (List.toArray r.ws) r.c)
def rLed (rs : List Row) : Led := rs.map rEnt
def rRefs (rs : List Row) : List Value := rs.map fun r => Value.ref r.a
structure RowsOk (P : Addr) (rs : List Row) : Prop where
  isI : ∀ r ∈ rs, IntsAre r.ws r.ns
  off : ∀ r ∈ rs, r.a ≠ P
  nd : (rs.map fun r => r.a).Nodup
theorem rLed_mem {rs : List Row} {p : Addr × Obj} (h : p ∈ rLed rs) : ∃ r ∈ rs, p = rEnt r := by
  obtain ⟨r, hr, rfl⟩ := List.mem_map.1 h
  exact ⟨r, hr, rfl⟩
theorem rLed_of {rs : List Row} {r : Row} (h : r ∈ rs) : rEnt r ∈ rLed rs := List.mem_map.2 ⟨r, h, rfl⟩
theorem rLed_snoc (rs : List Row) (r : Row) : rLed (rs ++ [r]) = rLed rs ++ [rEnt r] := by simp [rLed]
theorem rRefs_snoc (rs : List Row) (r : Row) : rRefs (rs ++ [r]) = rRefs rs ++ [Value.ref r.a] := by simp [rRefs]
theorem rRefs_len (rs : List Row) : (rRefs rs).length = rs.length := by simp [rRefs]
theorem RowsOk.last {P : Addr} {rs0 : List Row} {r : Row} (h : RowsOk P (rs0 ++ [r])) : (∀ p ∈ rLed rs0, p.1 ≠ r.a) ∧ (∀ p ∈ rLed rs0, p.1 ≠ P) ∧ r.a ≠ P ∧ IntsAre r.ws r.ns := by
  refine ⟨fun p hp => ?_, fun p hp => ?_, h.off r (by simp), h.isI r (by simp)⟩
  · obtain ⟨q, hq, rfl⟩ := rLed_mem hp
    have hn := h.nd
    rw [List.map_append, List.nodup_append] at hn
    exact hn.2.2 q.a (List.mem_map.2 ⟨q, hq, rfl⟩) r.a (by simp)
  · obtain ⟨q, hq, rfl⟩ := rLed_mem hp
    exact h.off q (List.mem_append_left _ hq)
/-! ## pieces -/
def splZ (c : Int) : List Int → List Int → List (List Int)
  | w, [] => [w]
  | w, x :: r => if x = c then w :: splZ c [] r else splZ c (w ++ [x]) r
theorem between_spl (c : Int) : ∀ (f : Nat) (t w : List Int), t.length < f → betweenZ f t [c] w = splZ c w t
  | 0, _, _, h => by omega
  | f + 1, [], w, _ => by rw [betweenZ, splZ]
  | f + 1, x :: r, w, h => by
    have h' : r.length < f := by simp only [List.length_cons] at h; omega
    rw [betweenZ, splZ]
    have e : ([c] : List Int).isPrefixOf (x :: r) = (c == x) := by simp [List.isPrefixOf]
    rw [e]
    by_cases hx : x = c
    · subst hx
      rw [if_pos (by simp), if_pos rfl]
      show w :: betweenZ f r [x] [] = _
      rw [between_spl x f r [] h']
    · rw [if_neg (by simpa using fun q => hx q.symm), if_neg hx, between_spl c f r _ h']
structure SplI (c : Int) (pre : List Int) (init : List (List Int)) (last : List Int) : Prop where
  eq : ∀ rest, splZ c [] (pre ++ rest) = init ++ splZ c last rest
theorem spl_start (c : Int) : SplI c [] [] [] := ⟨fun _ => rfl⟩
theorem spl_cut {c x : Int} {pre : List Int} {init : List (List Int)} {last : List Int} (h : SplI c pre init last) (e : x = c) : SplI c (pre ++ [x]) (init ++ [last]) [] := ⟨fun rest => by
  rw [List.append_assoc, h.eq]
  show init ++ splZ c last (x :: rest) = _
  rw [splZ, if_pos e, List.append_assoc]
  rfl⟩
theorem spl_add {c x : Int} {pre : List Int} {init : List (List Int)} {last : List Int} (h : SplI c pre init last) (e : ¬ x = c) : SplI c (pre ++ [x]) init (last ++ [x]) := ⟨fun rest => by
  rw [List.append_assoc, h.eq]
  show init ++ splZ c last (x :: rest) = _
  rw [splZ, if_neg e]⟩
theorem spl_done {c : Int} {t : List Int} {init : List (List Int)} {last : List Int} (h : SplI c t init last) : splZ c [] t = init ++ [last] := by
  have e := h.eq []
  rw [List.append_nil] at e
  rw [e, splZ]
/-! ## the loop that cuts -/
def SplJ (P : Addr) (c : Int) (t : List Int) (i : Nat) (news : Led) : Prop :=
  ∃ (rs0 : List Row) (r : Row) (cP : Nat), news = (P, listOf (List.toArray (rRefs (rs0 ++ [r]))) cP) :: (r.a, listOf (List.toArray r.ws) r.c) :: rLed rs0 ∧ RowsOk P (rs0 ++ [r]) ∧
    SplI c (t.take i) (rs0.map fun q => q.ns) r.ns ∧ rs0.length ≤ i ∧ r.ns.length ≤ i ∧ ∀ q ∈ rs0, q.ns.length ≤ i
theorem take_snoc {t : List Int} {i : Nat} {n : Int} (h : t[i]? = some n) : t.take (i + 1) = t.take i ++ [n] := by
  rw [List.take_add_one, h]; rfl
variable {prog : Program} {w : World} {A : Around} {E : Value → Shared → Prop} {s : Shared} {env : Env} {h₀ : Heap} {x : Str} {body : List Stmt} {Q : Flow → Shared → Prop}
theorem sp_loop {l P R : Addr} {vs : List Value} {t : List Int} {cP cR : Nat} {m₀ : Str → Option Value} {news₀ : Led} (c : Int)
    (hh : A.handled = none) (F : Fr h₀ env.locals s.heap m₀) (N : News h₀ env.locals s.heap news₀) (e₀ : news₀ = [(P, listOf (List.toArray [Value.ref R]) cP), (R, listOf (List.toArray []) cR)]) (hRP : R ≠ P)
    (hl : h₀.IsList l vs.toArray) (hi : IntsAre vs t) (h31 : t.length ≤ 31)
    (turn : ∀ (rs0 : List Row) (r : Row) (cQ i : Nat) (n : Int) (tn : Tok) h tk I it, t[i]? = some n → i < t.length → (rRefs (rs0 ++ [r])).length ≤ 32 → RowsOk P (rs0 ++ [r]) → SplI c (t.take i) (rs0.map fun q => q.ns) r.ns → rs0.length ≤ i → r.ns.length ≤ i → (∀ q ∈ rs0, q.ns.length ≤ i) →
      it.cls = .type "list_iterator" → (@Ne Nat P I) → (@Ne Nat r.a I) → (∀ p ∈ rLed rs0, p.1 ≠ I) → (@Ne Nat r.a P) → (∀ p ∈ rLed rs0, p.1 ≠ P) → (∀ p ∈ rLed rs0, p.1 ≠ r.a) → IntsAre r.ws r.ns →
      Fr h₀ env.locals h (fun y => if y = x then some (.int n tn) else m₀ y) → News h₀ env.locals h ((I, it) :: (P, listOf (List.toArray (rRefs (rs0 ++ [r]))) cQ) :: (r.a, listOf (List.toArray r.ws) r.c) :: rLed rs0) →
      wpAny (model prog w) A (execs body env) (LpPost h₀ env.locals x m₀ I it (SplJ P c t (i + 1)) { s with heap := h, toks := tk } Q) E { s with heap := h, toks := tk })
    (done : ∀ (rs : List Row) (cQ : Nat) (u : Str → Option Value) h tk, splZ c [] t = (rs.map fun q => q.ns) → RowsOk P rs → rs.length ≤ t.length + 1 → (∀ q ∈ rs, q.ns.length ≤ t.length) →
      Fr h₀ env.locals h (fun y => if y = x then u y else m₀ y) → News h₀ env.locals h ((P, listOf (List.toArray (rRefs rs)) cQ) :: rLed rs) → Q .next { s with heap := h, toks := tk }) :
    wpAny (model prog w) A (pyIter (.ref l)) (fun it s₂ => LoopAtV prog w A h₀ env x body Q E it s₂) E s := by
  refine lp_base (SplJ P c t) hh F N hl ?_ ?_ ?_
  · refine ⟨[], ⟨R, [], cR, []⟩, cP, e₀, ⟨?_, ?_, ?_⟩, spl_start c, Nat.le_refl _, Nat.le_refl _, fun q hq => (nomatch hq)⟩
    · intro r hr; rcases List.mem_singleton.1 hr with rfl; exact .nil
    · intro r hr; rcases List.mem_singleton.1 hr with rfl; exact hRP
    · simp
  · rintro i v news₁ h tk I it hv ⟨rs0, r, cQ, rfl, ok, inv, l1, l2, l3⟩ hc hoff F₁ N₁
    obtain ⟨n, tn, rfl, hn⟩ := IntsAre.at hi i v hv
    obtain ⟨o1, o2, o3, o4⟩ := ok.last
    have hlt := (List.getElem?_eq_some_iff.1 hn).1
    exact turn rs0 r cQ i n tn h tk I it hn hlt (by rw [rRefs_len, List.length_append, List.length_singleton]; omega) ok inv l1 l2 l3 hc (hoff _ List.mem_cons_self) (hoff _ (List.mem_cons_of_mem _ List.mem_cons_self))
      (fun p hp => hoff p (List.mem_cons_of_mem _ (List.mem_cons_of_mem _ hp))) o3 o2 o1 o4 F₁ N₁
  · rintro u news₁ h tk ⟨rs0, r, cQ, rfl, ok, inv, l1, l2, l3⟩ F₁ N₁
    have hlen : vs.length = t.length := hi.length
    rw [hlen] at inv l1 l2 l3
    rw [List.take_length] at inv
    refine done (rs0 ++ [r]) cQ u h tk ?_ ok ?_ ?_ F₁ (fun p hp => ?_)
    · rw [spl_done inv, List.map_append]; rfl
    · rw [List.length_append, List.length_singleton]; omega
    · intro q hq
      rcases List.mem_append.1 hq with hq | hq
      · exact l3 q hq
      · rcases List.mem_singleton.1 hq with rfl; exact l2
    · rcases List.mem_cons.1 hp with rfl | hp
      · exact N₁ _ List.mem_cons_self
      · rw [rLed_snoc] at hp
        rcases List.mem_append.1 hp with hp | hp
        · exact N₁ p (List.mem_cons_of_mem _ (List.mem_cons_of_mem _ hp))
        · rcases List.mem_singleton.1 hp with rfl
          exact N₁ _ (List.mem_cons_of_mem _ List.mem_cons_self)
theorem sp_end_new {h' : Heap} {L I P D : Addr} {m₀ m' : Str → Option Value} {it : Obj} {s₁ : Shared} {tk cQ cD : Nat} {all : Led} {rs0 : List Row} {r : Row} {c n : Int} {t : List Int} {i : Nat}
    (F : Fr h₀ L h' m') (N : News h₀ L h' all) (hI : (I, it) ∈ all) (hP : (P, listOf ((List.toArray (rRefs (rs0 ++ [r]))).push (.ref D)) cQ) ∈ all) (hD : (D, listOf (List.toArray []) cD) ∈ all) (hr : (r.a, listOf (List.toArray r.ws) r.c) ∈ all)
    (hrs : ∀ p ∈ rLed rs0, p ∈ all) (hDI : @Ne Nat D I) (hDP : @Ne Nat D P) (hDr : @Ne Nat D r.a) (hDs : ∀ p ∈ rLed rs0, p.1 ≠ D) (hPI : @Ne Nat P I) (hrI : @Ne Nat r.a I) (hsI : ∀ p ∈ rLed rs0, p.1 ≠ I)
    (e : ∀ z, z ≠ x → m' z = m₀ z) (hn : t[i]? = some n) (hc : n = c) (ok : RowsOk P (rs0 ++ [r])) (inv : SplI c (t.take i) (rs0.map fun q => q.ns) r.ns) (l1 : rs0.length ≤ i) (l2 : r.ns.length ≤ i) (l3 : ∀ q ∈ rs0, q.ns.length ≤ i) :
    LpEnd h₀ L x m₀ I it (SplJ P c t (i + 1)) s₁ { s₁ with heap := h', toks := tk } := by
  refine LpEnd.intro ((P, listOf (List.toArray (rRefs ((rs0 ++ [r]) ++ [⟨D, [], cD, []⟩]))) cQ) :: (D, listOf (List.toArray []) cD) :: rLed (rs0 ++ [r])) F N hI ?_ ?_ e ?_
  · intro p hp
    rcases List.mem_cons.1 hp with rfl | hp
    · rw [rRefs_snoc (rs0 ++ [r]), ← List.push_toArray]; exact hP
    · rcases List.mem_cons.1 hp with rfl | hp
      · exact hD
      · rw [rLed_snoc] at hp
        rcases List.mem_append.1 hp with hp | hp
        · exact hrs p hp
        · rcases List.mem_singleton.1 hp with rfl; exact hr
  · intro p hp
    rcases List.mem_cons.1 hp with rfl | hp
    · exact hPI
    · rcases List.mem_cons.1 hp with rfl | hp
      · exact hDI
      · rw [rLed_snoc] at hp
        rcases List.mem_append.1 hp with hp | hp
        · exact hsI p hp
        · rcases List.mem_singleton.1 hp with rfl; exact hrI
  · refine ⟨rs0 ++ [r], ⟨D, [], cD, []⟩, cQ, rfl, ⟨?_, ?_, ?_⟩, ?_, ?_, Nat.zero_le _, ?_⟩
    · intro q hq
      rcases List.mem_append.1 hq with hq | hq
      · exact ok.isI q hq
      · rcases List.mem_singleton.1 hq with rfl; exact .nil
    · intro q hq
      rcases List.mem_append.1 hq with hq | hq
      · exact ok.off q hq
      · rcases List.mem_singleton.1 hq with rfl; exact hDP
    · rw [List.map_append, List.nodup_append]
      refine ⟨ok.nd, by simp, fun a ha b hb => ?_⟩
      have hb : b = D := List.mem_singleton.1 hb
      subst hb
      rw [List.map_append] at ha
      rcases List.mem_append.1 ha with ha | ha
      · obtain ⟨q, hq, rfl⟩ := List.mem_map.1 ha
        exact hDs _ (rLed_of hq)
      · have : a = r.a := List.mem_singleton.1 ha
        subst this
        exact fun q => hDr q.symm
    · rw [take_snoc hn, List.map_append]
      exact spl_cut inv hc
    · rw [List.length_append, List.length_singleton]; omega
    · intro q hq
      rcases List.mem_append.1 hq with hq | hq
      · exact Nat.le_succ_of_le (l3 q hq)
      · rcases List.mem_singleton.1 hq with rfl; exact Nat.le_succ_of_le l2
theorem sp_end_add {h' : Heap} {L I P : Addr} {m₀ m' : Str → Option Value} {it : Obj} {s₁ : Shared} {tk cQ cr : Nat} {all : Led} {rs0 : List Row} {r : Row} {c n : Int} {tn : Tok} {t : List Int} {i : Nat}
    (F : Fr h₀ L h' m') (N : News h₀ L h' all) (hI : (I, it) ∈ all) (hP : (P, listOf (List.toArray (rRefs (rs0 ++ [r]))) cQ) ∈ all) (hr : (r.a, listOf ((List.toArray r.ws).push (.int n tn)) cr) ∈ all)
    (hrs : ∀ p ∈ rLed rs0, p ∈ all) (hPI : @Ne Nat P I) (hrI : @Ne Nat r.a I) (hsI : ∀ p ∈ rLed rs0, p.1 ≠ I)
    (e : ∀ z, z ≠ x → m' z = m₀ z) (hn : t[i]? = some n) (hc : ¬ n = c) (ok : RowsOk P (rs0 ++ [r])) (inv : SplI c (t.take i) (rs0.map fun q => q.ns) r.ns) (l1 : rs0.length ≤ i) (l2 : r.ns.length ≤ i) (l3 : ∀ q ∈ rs0, q.ns.length ≤ i) :
    LpEnd h₀ L x m₀ I it (SplJ P c t (i + 1)) s₁ { s₁ with heap := h', toks := tk } := by
  have er : rRefs (rs0 ++ [r]) = rRefs (rs0 ++ [⟨r.a, r.ws ++ [.int n tn], cr, r.ns ++ [n]⟩]) := by rw [rRefs_snoc, rRefs_snoc]
  refine LpEnd.intro ((P, listOf (List.toArray (rRefs (rs0 ++ [⟨r.a, r.ws ++ [.int n tn], cr, r.ns ++ [n]⟩]))) cQ) :: (r.a, listOf (List.toArray (r.ws ++ [.int n tn])) cr) :: rLed rs0) F N hI ?_ ?_ e ?_
  · intro p hp
    rcases List.mem_cons.1 hp with rfl | hp
    · rw [← er]; exact hP
    · rcases List.mem_cons.1 hp with rfl | hp
      · rw [← List.push_toArray]; exact hr
      · exact hrs p hp
  · intro p hp
    rcases List.mem_cons.1 hp with rfl | hp
    · exact hPI
    · rcases List.mem_cons.1 hp with rfl | hp
      · exact hrI
      · exact hsI p hp
  · refine ⟨rs0, ⟨r.a, r.ws ++ [.int n tn], cr, r.ns ++ [n]⟩, cQ, rfl, ⟨?_, ?_, ?_⟩, ?_, Nat.le_succ_of_le l1, ?_, fun q hq => Nat.le_succ_of_le (l3 q hq)⟩
    · intro q hq
      rcases List.mem_append.1 hq with hq | hq
      · exact ok.isI q (List.mem_append_left _ hq)
      · rcases List.mem_singleton.1 hq with rfl
        exact IntsAre.append (ok.isI r (by simp)) (.cons n tn .nil)
    · intro q hq
      rcases List.mem_append.1 hq with hq | hq
      · exact ok.off q (List.mem_append_left _ hq)
      · rcases List.mem_singleton.1 hq with rfl
        exact ok.off r (by simp)
    · have := ok.nd
      rw [List.map_append] at this ⊢
      exact this
    · rw [take_snoc hn]
      exact spl_add inv hc
    · show (r.ns ++ [n]).length ≤ i + 1
      rw [List.length_append, List.length_singleton]; omega
theorem sp_last {prog : Program} {w : World} {A : Around} {E : Value → Shared → Prop} {s : Shared} {h₀ : Heap} {L P : Addr} {all : Led} {value slice : PySem.Expr} {k : Int} {u : Tok} {rs0 : List Row} {r : Row} {cQ : Nat} {Q : Value → Shared → Prop}
    (N : News h₀ L s.heap all) (hP : (P, listOf (List.toArray (rRefs (rs0 ++ [r]))) cQ) ∈ all) (hk : k = -1) (h : Q (.ref r.a) s)
    (hs : subscripted slice false (.ref P) (.int k u) = operate [.ref P, .int k u] (getItem (.ref P) (.int k u)) := by with_unfolding_all rfl) :
    wpAny (model prog w) A (subscriptTail value slice (.ref P) (.int k u)) Q E s := by
  subst hk
  have hl : s.heap.IsList P (List.toArray (rRefs (rs0 ++ [r]))) := ⟨_, (N _ hP).1, rfl, cQ, rfl⟩
  have hz : (List.toArray (rRefs (rs0 ++ [r]))).size = rs0.length + 1 := by rw [List.size_toArray, rRefs_len, List.length_append, List.length_singleton]
  refine tail_any hl.typeIs slot_list_getitem.lookup (wpAny_getItem_list_neg hl (by decide) (by rw [hz]; omega) (by decide) (x := .ref r.a) ?_ h) hs
  rw [hz]
  have : (-1 + ((rs0.length + 1 : Nat) : Int)).toNat = rs0.length := by omega
  rw [this, rRefs_snoc]
  simp [rRefs]
end
end My

/- several texts told: the loop over the rows -/
namespace My
section
open PySem PySem.W PySem.Calls PyProof.Rows PySem.Spec
def txAns (k : Nat) (ls : List (List Int)) : List Int := (k : Int) :: ls.flatMap tell
theorem txAns_snoc (k : Nat) (ls : List (List Int)) (b : List Int) : txAns k (ls ++ [b]) = txAns k ls ++ ([((List.take 31 b).length : Int)] ++ List.take 31 b) := by
  unfold txAns
  rw [List.flatMap_append]
  simp [tell]
theorem tell_len (b : List Int) : (tell b).length ≤ 32 := by
  unfold tell
  rw [List.length_cons, List.length_take]; omega
theorem flat_len : ∀ (ls : List (List Int)), (ls.flatMap tell).length ≤ 32 * ls.length
  | [] => Nat.le_refl _
  | b :: r => by
    have := flat_len r
    have := tell_len b
    rw [List.flatMap_cons, List.length_append, List.length_cons]; omega
theorem txAns_len (k : Nat) (ls : List (List Int)) : (txAns k ls).length ≤ 32 * ls.length + 1 := by
  have := flat_len ls
  unfold txAns
  rw [List.length_cons]; omega
theorem txAns_all {ls : List (List Int)} (h : ∀ b ∈ ls, b.length ≤ 31) : txAns ls.length ls = tells ls := by
  unfold txAns tells
  congr 1
  induction ls with
  | nil => rfl
  | cons b r ih =>
    rw [List.flatMap_cons, List.flatMap_cons, ih (fun q hq => h q (List.mem_cons_of_mem _ hq)), tell_short (h b List.mem_cons_self)]
def TxJ (D P : Addr) (rs : List Row) (cP : Nat) (i : Nat) (news : Led) : Prop :=
  ∃ (ws : List Value) (c : Nat), news = (D, listOf (List.toArray ws) c) :: (P, listOf (List.toArray (rRefs rs)) cP) :: rLed rs ∧ IntsAre ws (txAns rs.length ((rs.take i).map fun q => q.ns))
theorem takeR_snoc {rs : List Row} {i : Nat} {r : Row} (h : rs[i]? = some r) : rs.take (i + 1) = rs.take i ++ [r] := by
  rw [List.take_add_one, h]; rfl
variable {prog : Program} {w : World} {A : Around} {E : Value → Shared → Prop} {s : Shared} {env : Env} {h₀ : Heap} {x : Str} {body : List Stmt} {Q : Flow → Shared → Prop}
theorem tx_loop {D P : Addr} {rs : List Row} {ws₀ : List Value} {cP cD : Nat} {m₀ : Str → Option Value} {news₀ : Led}
    (hh : A.handled = none) (F : Fr h₀ env.locals s.heap m₀) (N : News h₀ env.locals s.heap news₀) (hD : (D, listOf (List.toArray ws₀) cD) ∈ news₀) (hP : (P, listOf (List.toArray (rRefs rs)) cP) ∈ news₀) (hR : ∀ p ∈ rLed rs, p ∈ news₀)
    (hw : IntsAre ws₀ [(rs.length : Int)]) (hDP : @Ne Nat D P) (hDs : ∀ p ∈ rLed rs, p.1 ≠ D) (ok : RowsOk P rs) (h31 : ∀ q ∈ rs, q.ns.length ≤ 31) (h32 : rs.length ≤ 32)
    (turn : ∀ (r : Row) (ws : List Value) (c i : Nat) h tk I it, rs[i]? = some r → IntsAre ws (txAns rs.length ((rs.take i).map fun q => q.ns)) → (txAns rs.length ((rs.take i).map fun q => q.ns)).length ≤ 1025 → IntsAre r.ws r.ns → r.ns.length ≤ 31 →
      it.cls = .type "list_iterator" → (@Ne Nat D I) → (@Ne Nat P I) → (@Ne Nat r.a I) → (@Ne Nat P D) → (@Ne Nat r.a D) → (∀ p ∈ rLed rs, p.1 ≠ D) → (∀ p ∈ rLed rs, p.1 ≠ I) →
      Fr h₀ env.locals h (fun y => if y = x then some (.ref r.a) else m₀ y) → News h₀ env.locals h ((I, it) :: (r.a, listOf (List.toArray r.ws) r.c) :: (D, listOf (List.toArray ws) c) :: (P, listOf (List.toArray (rRefs rs)) cP) :: rLed rs) →
      wpAny (model prog w) A (execs body env) (LpPost h₀ env.locals x m₀ I it (TxJ D P rs cP (i + 1)) { s with heap := h, toks := tk } Q) E { s with heap := h, toks := tk })
    (done : ∀ (ws : List Value) (c : Nat) (u : Str → Option Value) h tk, IntsAre ws (txAns rs.length (rs.map fun q => q.ns)) → (txAns rs.length (rs.map fun q => q.ns)).length ≤ 1025 →
      Fr h₀ env.locals h (fun y => if y = x then u y else m₀ y) → News h₀ env.locals h [(D, listOf (List.toArray ws) c), (P, listOf (List.toArray (rRefs rs)) cP)] → Q .next { s with heap := h, toks := tk }) :
    wpAny (model prog w) A (pyIter (.ref P)) (fun it s₂ => LoopAtV prog w A h₀ env x body Q E it s₂) E s := by
  have N' : News h₀ env.locals s.heap ((D, listOf (List.toArray ws₀) cD) :: (P, listOf (List.toArray (rRefs rs)) cP) :: rLed rs) := fun p hp => by
    rcases List.mem_cons.1 hp with rfl | hp
    · exact N _ hD
    · rcases List.mem_cons.1 hp with rfl | hp
      · exact N _ hP
      · exact N p (hR p hp)
  refine lp_made (vs := rRefs rs) (nn := cP) (TxJ D P rs cP) hh F N' ?_ ⟨ws₀, cD, rfl, hw⟩ ?_ ?_
  · rintro i news ⟨ws, c, rfl, _⟩
    exact List.mem_cons_of_mem _ List.mem_cons_self
  · rintro i v news₁ h tk I it hv ⟨ws, c, rfl, hi⟩ hc hoff F₁ N₁
    have hv' : ((rs[i]?).map fun r => Value.ref r.a) = some v := by rw [← hv]; unfold rRefs; rw [List.getElem?_map]
    cases hr : rs[i]? with
    | none => rw [hr] at hv'; cases hv'
    | some r =>
      rw [hr] at hv'
      have hv'' : Value.ref r.a = v := Option.some.inj hv'
      subst hv''
      have hm : r ∈ rs := List.mem_of_getElem? hr
      have hlen : (txAns rs.length ((rs.take i).map fun q => q.ns)).length ≤ 1025 := by
        have := txAns_len rs.length ((rs.take i).map fun q => q.ns)
        rw [List.length_map, List.length_take] at this; omega
      refine turn r ws c i h tk I it hr hi hlen (ok.isI r hm) (h31 r hm) hc (hoff _ List.mem_cons_self) (hoff _ (List.mem_cons_of_mem _ List.mem_cons_self)) (hoff (rEnt r) (List.mem_cons_of_mem _ (List.mem_cons_of_mem _ (rLed_of hm))))
        (Ne.symm hDP) (hDs (rEnt r) (rLed_of hm)) hDs (fun p hp => hoff p (List.mem_cons_of_mem _ (List.mem_cons_of_mem _ hp))) F₁ (fun p hp => ?_)
      rcases List.mem_cons.1 hp with rfl | hp
      · exact N₁ _ List.mem_cons_self
      · rcases List.mem_cons.1 hp with rfl | hp
        · exact N₁ (rEnt r) (List.mem_cons_of_mem _ (List.mem_cons_of_mem _ (List.mem_cons_of_mem _ (rLed_of hm))))
        · exact N₁ p (List.mem_cons_of_mem _ hp)
  · rintro u news₁ h tk ⟨ws, c, rfl, hi⟩ F₁ N₁
    rw [rRefs_len, List.take_length] at hi
    have hlen := txAns_len rs.length (rs.map fun q => q.ns)
    rw [List.length_map] at hlen
    refine done ws c u h tk hi (by omega) F₁ (fun p hp => N₁ p ?_)
    rcases List.mem_cons.1 hp with rfl | hp
    · exact List.mem_cons_self
    · rcases List.mem_singleton.1 hp with rfl
      exact List.mem_cons_of_mem _ List.mem_cons_self
theorem tx_end {h' : Heap} {L I D P : Addr} {m₀ m' : Str → Option Value} {it : Obj} {s₁ : Shared} {tk cP c' : Nat} {all : Led} {rs : List Row} {r : Row} {i : Nat} {ws' : List Value}
    (F : Fr h₀ L h' m') (N : News h₀ L h' all) (hI : (I, it) ∈ all) (hD : (D, listOf (List.toArray ws') c') ∈ all) (hP : (P, listOf (List.toArray (rRefs rs)) cP) ∈ all) (hR : ∀ p ∈ rLed rs, p ∈ all)
    (hi : IntsAre ws' (txAns rs.length ((rs.take i).map fun q => q.ns) ++ ([((List.take 31 r.ns).length : Int)] ++ List.take 31 r.ns)))
    (hDI : @Ne Nat D I) (hPI : @Ne Nat P I) (hsI : ∀ p ∈ rLed rs, p.1 ≠ I) (e : ∀ z, z ≠ x → m' z = m₀ z) (hr : rs[i]? = some r) :
    LpEnd h₀ L x m₀ I it (TxJ D P rs cP (i + 1)) s₁ { s₁ with heap := h', toks := tk } := by
  refine LpEnd.intro ((D, listOf (List.toArray ws') c') :: (P, listOf (List.toArray (rRefs rs)) cP) :: rLed rs) F N hI ?_ ?_ e ⟨ws', c', rfl, ?_⟩
  · intro p hp
    rcases List.mem_cons.1 hp with rfl | hp
    · exact hD
    · rcases List.mem_cons.1 hp with rfl | hp
      · exact hP
      · exact hR p hp
  · intro p hp
    rcases List.mem_cons.1 hp with rfl | hp
    · exact hDI
    · rcases List.mem_cons.1 hp with rfl | hp
      · exact hPI
      · exact hsI p hp
  · rw [takeR_snoc hr, List.map_append]
    show IntsAre ws' (txAns rs.length ((rs.take i).map (fun q => q.ns) ++ [r.ns]))
    rw [txAns_snoc]
    exact hi
theorem allLt_mem {d : Addr} : ∀ {l : Led}, AllLt d l → ∀ p ∈ l, p.1 ≠ d
  | [], _, _, h => nomatch h
  | q :: r, h, p, hp => by
    rcases List.mem_cons.1 hp with rfl | hp
    · exact Nat.ne_of_lt h.1
    · exact allLt_mem h.2 p hp
end
end My

/- a run has one end -/
namespace My
open PySem
theorem runs_det {M : Model} {Γ : Ctx} {p : Pos} {t : Sem Fin} {fs : List Frame} {s s₁ : Shared} {e₁ : End} (h : Runs M Γ p t fs s e₁ s₁) : ∀ {e₂ : End} {s₂ : Shared}, Runs M Γ p t fs s e₂ s₂ → e₂ = e₁ ∧ s₂ = s₁ := by
  induction h with
  | done => intro e₂ s₂ h2; cases h2; exact ⟨rfl, rfl⟩
  | raise => intro e₂ s₂ h2; cases h2; exact ⟨rfl, rfl⟩
  | again _ _ ih => intro e₂ s₂ h2; cases h2; exact ih (by assumption)
  | rule _ ih => intro e₂ s₂ h2; cases h2; exact ih (by assumption)
  | «at» _ ih => intro e₂ s₂ h2; cases h2; exact ih (by assumption)
  | load ho _ ih =>
    intro e₂ s₂ h2
    cases h2 with
    | load ho' r =>
      rw [ho] at ho'
      cases ho'
      exact ih r
  | update _ _ ih => intro e₂ s₂ h2; cases h2; exact ih (by assumption)
  | loadIfAlive _ ih => intro e₂ s₂ h2; cases h2; exact ih (by assumption)
  | point _ ih => intro e₂ s₂ h2; cases h2; exact ih (by assumption)
  | alloc _ ih => intro e₂ s₂ h2; cases h2; exact ih (by assumption)
  | fresh _ ih => intro e₂ s₂ h2; cases h2; exact ih (by assumption)
  | ask _ ih => intro e₂ s₂ h2; cases h2; exact ih (by assumption)
  | choose _ _ ih => intro e₂ s₂ h2; cases h2; exact ih (by assumption)
  | os _ ih => intro e₂ s₂ h2; cases h2; exact ih (by assumption)
  | handled _ ih => intro e₂ s₂ h2; cases h2; exact ih (by assumption)
  | genState hg _ ih =>
    intro e₂ s₂ h2
    cases h2 with
    | genState hg' r =>
      rw [hg] at hg'
      cases hg'
      exact ih r
  | stack _ ih => intro e₂ s₂ h2; cases h2; exact ih (by assumption)
  | thread _ ih => intro e₂ s₂ h2; cases h2; exact ih (by assumption)
  | newGen _ ih => intro e₂ s₂ h2; cases h2; exact ih (by assumption)
  | call _ _ ih1 ih2 =>
    intro e₂ s₂ h2
    cases h2 with
    | call r1 r2 =>
      obtain ⟨a, b⟩ := ih1 r1
      cases a
      subst b
      exact ih2 r2
    | callSusp r1 =>
      obtain ⟨a, _⟩ := ih1 r1
      cases a
  | callSusp _ ih1 =>
    intro e₂ s₂ h2
    cases h2 with
    | call r1 r2 =>
      obtain ⟨a, _⟩ := ih1 r1
      cases a
    | callSusp r1 =>
      obtain ⟨a, b⟩ := ih1 r1
      cases a
      exact ⟨rfl, b⟩
  | yield => intro e₂ s₂ h2; cases h2; exact ⟨rfl, rfl⟩
  | resumeFresh hg _ _ _ ih1 ih2 =>
    intro e₂ s₂ h2
    cases h2 with
    | resumeFresh hg' r1 _ r2 =>
      rw [hg] at hg'
      cases hg'
      obtain ⟨a, b⟩ := ih1 r1
      subst a; subst b
      exact ih2 r2
    | resumeSuspended hg' => rw [hg] at hg'; cases hg'
    | resumeJustStarted _ hv => exact absurd rfl hv
    | resumeRunning hg' => rw [hg] at hg'; cases hg'
    | resumeFinished hg' => rw [hg] at hg'; cases hg'
  | resumeSuspended hg _ _ _ ih1 ih2 =>
    intro e₂ s₂ h2
    cases h2 with
    | resumeFresh hg' => rw [hg] at hg'; cases hg'
    | resumeSuspended hg' r1 _ r2 =>
      rw [hg] at hg'
      cases hg'
      obtain ⟨a, b⟩ := ih1 r1
      subst a; subst b
      exact ih2 r2
    | resumeJustStarted hg' => rw [hg] at hg'; cases hg'
    | resumeThrowFresh hg' => rw [hg] at hg'; cases hg'
    | resumeRunning hg' => rw [hg] at hg'; cases hg'
    | resumeFinished hg' => rw [hg] at hg'; cases hg'
  | resumeJustStarted hg hv _ ih =>
    intro e₂ s₂ h2
    cases h2 with
    | resumeFresh => exact absurd rfl hv
    | resumeSuspended hg' => rw [hg] at hg'; cases hg'
    | resumeJustStarted _ _ r => exact ih r
    | resumeRunning hg' => rw [hg] at hg'; cases hg'
    | resumeFinished hg' => rw [hg] at hg'; cases hg'
  | resumeThrowFresh hg _ ih =>
    intro e₂ s₂ h2
    cases h2 with
    | resumeSuspended hg' => rw [hg] at hg'; cases hg'
    | resumeThrowFresh _ r => exact ih r
    | resumeRunning hg' => rw [hg] at hg'; cases hg'
    | resumeFinished hg' => rw [hg] at hg'; cases hg'
  | resumeRunning hg _ ih =>
    intro e₂ s₂ h2
    cases h2 with
    | resumeFresh hg' => rw [hg] at hg'; cases hg'
    | resumeSuspended hg' => rw [hg] at hg'; cases hg'
    | resumeJustStarted hg' => rw [hg] at hg'; cases hg'
    | resumeThrowFresh hg' => rw [hg] at hg'; cases hg'
    | resumeRunning _ r => exact ih r
    | resumeFinished hg' => rw [hg] at hg'; cases hg'
  | resumeFinished hg _ ih =>
    intro e₂ s₂ h2
    cases h2 with
    | resumeFresh hg' => rw [hg] at hg'; cases hg'
    | resumeSuspended hg' => rw [hg] at hg'; cases hg'
    | resumeJustStarted hg' => rw [hg] at hg'; cases hg'
    | resumeThrowFresh hg' => rw [hg] at hg'; cases hg'
    | resumeRunning hg' => rw [hg] at hg'; cases hg'
    | resumeFinished _ r => exact ih r
  | segRet _ _ ih1 ih2 =>
    intro e₂ s₂ h2
    cases h2 with
    | segRet r1 r2 =>
      obtain ⟨a, b⟩ := ih1 r1
      cases a
      subst b
      exact ih2 r2
    | segSuspOut _ r1 => obtain ⟨a, _⟩ := ih1 r1; cases a
    | segSuspGen _ r1 => obtain ⟨a, _⟩ := ih1 r1; cases a
  | segGen _ _ ih1 ih2 =>
    intro e₂ s₂ h2
    cases h2 with
    | segGen r1 r2 =>
      obtain ⟨a, b⟩ := ih1 r1
      cases a
      subst b
      exact ih2 r2
    | segSuspOut _ r1 => obtain ⟨a, _⟩ := ih1 r1; cases a
    | segSuspGen _ r1 => obtain ⟨a, _⟩ := ih1 r1; cases a
  | segSuspOut hn _ ih1 =>
    intro e₂ s₂ h2
    cases h2 with
    | segRet r1 => obtain ⟨a, _⟩ := ih1 r1; cases a
    | segGen r1 => obtain ⟨a, _⟩ := ih1 r1; cases a
    | segSuspOut _ r1 =>
      obtain ⟨a, b⟩ := ih1 r1
      cases a
      exact ⟨rfl, b⟩
    | segSuspGen hn' => rw [hn] at hn'; cases hn'
  | segSuspGen hn _ _ _ ih1 ih2 =>
    intro e₂ s₂ h2
    cases h2 with
    | segRet r1 => obtain ⟨a, _⟩ := ih1 r1; cases a
    | segGen r1 => obtain ⟨a, _⟩ := ih1 r1; cases a
    | segSuspOut hn' => rw [hn] at hn'; cases hn'
    | segSuspGen hn' r1 _ r2 =>
      rw [hn] at hn'
      cases hn'
      obtain ⟨a, b⟩ := ih1 r1
      cases a
      subst b
      exact ih2 r2
end My

/- the sort does the same whichever way its comparisons are made -/
namespace My
section
open PySem PyProof.Rows
theorem wakes_det {M : Model} {Γ : Ctx} {p : Pos} {g : Nat} {r : Resume} {s s₁ s₂ : Shared} {a₁ a₂ : GenResult} (h1 : Wakes M Γ p g r s a₁ s₁) (h2 : Wakes M Γ p g r s a₂ s₂) : a₂ = a₁ ∧ s₂ = s₁ := by
  unfold Wakes at h1 h2
  split at h1
  · exact h1.elim
  · rename_i c hc
    simp only [hc] at h2
    split at h1
    · obtain ⟨e, t, x, _, rfl, rfl⟩ := h1
      obtain ⟨e', t', x', _, rfl, rfl⟩ := h2
      obtain ⟨rfl, rfl⟩ := runs_det x x'
      exact ⟨rfl, rfl⟩
    · obtain ⟨rfl, rfl⟩ := h1
      first
        | (obtain ⟨rfl, rfl⟩ := h2; exact ⟨rfl, rfl⟩)
        | (split at h2
           · simp_all
           · obtain ⟨rfl, rfl⟩ := h2; exact ⟨rfl, rfl⟩
           · rename_i hv; cases hv)
    · obtain ⟨rfl, rfl⟩ := h1
      obtain ⟨rfl, rfl⟩ := h2
      exact ⟨rfl, rfl⟩
  · rename_i hc
    simp only [hc] at h2
    obtain ⟨e, t, x, _, rfl, rfl⟩ := h1
    obtain ⟨e', t', x', _, rfl, rfl⟩ := h2
    obtain ⟨rfl, rfl⟩ := runs_det x x'
    exact ⟨rfl, rfl⟩
  · rename_i hc
    simp only [hc] at h2
    obtain ⟨rfl, rfl⟩ := h1
    obtain ⟨rfl, rfl⟩ := h2
    exact ⟨rfl, rfl⟩
  · rename_i hc
    simp only [hc] at h2
    obtain ⟨rfl, rfl⟩ := h1
    obtain ⟨rfl, rfl⟩ := h2
    exact ⟨rfl, rfl⟩
theorem wp_meet {α : Type} {M : Model} {Γ : Ctx} (t : Sem α) {Q Q' : α → Pos → Shared → Prop} {E E' : Value → Pos → Shared → Prop} {p : Pos} {s : Shared}
    (h1 : Sem.wp M Γ t Q E p s) (h2 : Sem.wp M Γ t Q' E' p s) : (∃ a p' s', Q a p' s' ∧ Q' a p' s') ∨ ∃ e p' s', E e p' s' ∧ E' e p' s' := by
  induction t generalizing p s with
  | pure a => exact .inl ⟨_, _, _, h1, h2⟩
  | raise e => exact .inr ⟨_, _, _, h1, h2⟩
  | call c hh g l k ih =>
    simp only [Sem.wp, wpCode] at h1 h2
    obtain ⟨r, t1, x1, y1⟩ := h1
    obtain ⟨r', t2, x2, y2⟩ := h2
    obtain ⟨a, rfl⟩ := runs_det x1 x2
    cases a
    exact ih _ y1 y2
  | resume g r l k ih =>
    simp only [Sem.wp] at h1 h2
    obtain ⟨r, t1, x1, y1⟩ := h1
    obtain ⟨r', t2, x2, y2⟩ := h2
    obtain ⟨rfl, rfl⟩ := wakes_det x1 x2
    exact ih _ y1 y2
  | load a part k ih =>
    simp only [Sem.wp] at h1 h2
    obtain ⟨o, e1, y1⟩ := h1
    obtain ⟨o', e2, y2⟩ := h2
    rw [e1] at e2
    cases e2
    exact ih _ y1 y2
  | genState g k ih =>
    simp only [Sem.wp] at h1 h2
    obtain ⟨o, e1, y1⟩ := h1
    obtain ⟨o', e2, y2⟩ := h2
    rw [e1] at e2
    cases e2
    exact ih _ y1 y2
  | update a part f k ih => simp only [Sem.wp] at h1 h2; exact ih _ h1.2 h2.2
  | choose src n k ih => simp only [Sem.wp] at h1 h2; exact ih _ h1.2 h2.2
  | _ => first
    | (simp only [Sem.wp] at h1; done)
    | (simp only [Sem.wp] at h1 h2; rename_i ih; exact ih _ h1 h2)
    | (simp only [Sem.wp] at h1; exact h1.elim)

/-! ## values that may be compared, everywhere in a datum -/
class Fine (ok : Value → Prop) (α : Type) where
  fine : α → Prop
variable {ok : Value → Prop}
instance : Fine ok Nat := ⟨fun _ => True⟩
instance : Fine ok Bool := ⟨fun _ => True⟩
instance : Fine ok Unit := ⟨fun _ => True⟩
instance : Fine ok Value := ⟨ok⟩
instance {α β : Type} [Fine ok α] [Fine ok β] : Fine ok (α × β) := ⟨fun x => Fine.fine ok x.1 ∧ Fine.fine ok x.2⟩
instance {α : Type} [Fine ok α] : Fine ok (Option α) := ⟨fun o => ∀ x, o = some x → Fine.fine ok x⟩
instance {α : Type} [Fine ok α] : Fine ok (Array α) := ⟨fun a => ∀ x ∈ a, Fine.fine ok x⟩
instance {α : Type} [Fine ok α] : Fine ok (ForInStep α) := ⟨fun o => match o with
  | .done x => Fine.fine ok x
  | .yield x => Fine.fine ok x⟩
def K2 (st : SortSt) : SortSt := SortSt.mk' (tuples' true) (arrOf st) (pendingOf st) (gallopOf st) (failedOf st)
theorem arr_K2 (st : SortSt) : arrOf (K2 st) = arrOf st := rfl
theorem pend_K2 (st : SortSt) : pendingOf (K2 st) = pendingOf st := rfl
theorem gal_K2 (st : SortSt) : gallopOf (K2 st) = gallopOf st := rfl
theorem fail_K2 (st : SortSt) : failedOf (K2 st) = failedOf st := rfl
structure FineSt (ok : Value → Prop) (st : SortSt) : Prop where
  kind : kindOf st = oneType'
  all : Fine.fine ok (arrOf st)
variable {M : Model} {Γ : Ctx} {s : Shared} {α β : Type}
def Sim (M : Model) (Γ : Ctx) (s : Shared) (ok : Value → Prop) {α : Type} [Fine ok α] (m m' : StateT SortSt Sem α) : Prop :=
  ∀ (st : SortSt), FineSt ok st → ∀ (p₁ p₂ : Pos) (Q : α × SortSt → Pos → Shared → Prop) (E₁ E₂ : Value → Pos → Shared → Prop), Sem.wp M Γ (m'.run (K2 st)) Q E₂ p₂ s →
    Sem.wp M Γ (m.run st) (fun r _ s' => s' = s ∧ Fine.fine ok r.1 ∧ FineSt ok r.2 ∧ ∃ p', Q (r.1, K2 r.2) p' s) E₁ p₁ s
theorem sim_pure [Fine ok α] {a : α} (h : Fine.fine ok a) : Sim M Γ s ok (pure a) (pure a) := fun st hst p₁ p₂ Q E₁ E₂ hq => by
  rw [StateT.run_pure] at hq ⊢
  rw [Sem.wp_pure'] at hq ⊢
  exact ⟨rfl, h, hst, p₂, hq⟩
theorem sim_bind [Fine ok α] [Fine ok β] {m m' : StateT SortSt Sem α} {f f' : α → StateT SortSt Sem β} (hm : Sim M Γ s ok m m') (hf : ∀ a, Fine.fine ok a → Sim M Γ s ok (f a) (f' a)) : Sim M Γ s ok (m >>= f) (m' >>= f') :=
  fun st hst p₁ p₂ Q E₁ E₂ hq => by
    rw [StateT.run_bind, Sem.wp_bind'] at hq
    rw [StateT.run_bind, Sem.wp_bind']
    refine Sem.wp_mono M Γ _ (fun r p' s' h => ?_) (fun _ _ _ e => e) _ _ (hm st hst p₁ p₂ _ E₁ E₂ hq)
    obtain ⟨rfl, h1, h2, p'', h3⟩ := h
    exact hf r.1 h1 r.2 h2 p' p'' Q E₁ E₂ h3
theorem sim_get [Fine ok β] {f f' : SortSt → StateT SortSt Sem β} (hf : ∀ st, FineSt ok st → Sim M Γ s ok (f st) (f' (K2 st))) : Sim M Γ s ok (get >>= f) (get >>= f') :=
  fun st hst p₁ p₂ Q E₁ E₂ hq => hf st hst st hst p₁ p₂ Q E₁ E₂ hq
theorem sim_modify {g g' : SortSt → SortSt} (h : ∀ st, FineSt ok st → FineSt ok (g st) ∧ K2 (g st) = g' (K2 st)) : Sim M Γ s ok (modify g : StateT SortSt Sem Unit) (modify g') :=
  fun st hst p₁ p₂ Q E₁ E₂ hq => by
    have hq : Q ((), g' (K2 st)) p₂ s := hq
    show s = s ∧ True ∧ FineSt ok (g st) ∧ ∃ p', Q ((), K2 (g st)) p' s
    obtain ⟨a, b⟩ := h st hst
    exact ⟨rfl, trivial, a, p₂, by rw [b]; exact hq⟩
theorem sim_set {g g' : SortSt} (h1 : FineSt ok g) (h2 : K2 g = g') : Sim M Γ s ok (set g : StateT SortSt Sem Unit) (set g') :=
  fun st hst p₁ p₂ Q E₁ E₂ hq => by
    have hq : Q ((), g') p₂ s := hq
    show s = s ∧ True ∧ FineSt ok g ∧ ∃ p', Q ((), K2 g) p' s
    exact ⟨rfl, trivial, h1, p₂, by rw [h2]; exact hq⟩
theorem sim_rule {tag : String} : Sim M Γ s ok (liftM (rule tag) : StateT SortSt Sem Unit) (liftM (rule tag)) :=
  fun st hst p₁ p₂ Q E₁ E₂ hq => by
    have hq : Q ((), K2 st) p₂ s := hq
    show s = s ∧ True ∧ FineSt ok st ∧ ∃ p', Q ((), K2 st) p' s
    exact ⟨rfl, trivial, hst, p₂, hq⟩
theorem sim_ite [Fine ok α] {c : Prop} {i i' : Decidable c} {a a' b b' : StateT SortSt Sem α} (h1 : c → Sim M Γ s ok a a') (h2 : ¬ c → Sim M Γ s ok b b') : Sim M Γ s ok (@ite _ c i a b) (@ite _ c i' a' b') := by
  by_cases h : c
  · rw [if_pos h, if_pos h]; exact h1 h
  · rw [if_neg h, if_neg h]; exact h2 h
theorem sim_list [Fine ok β] {f f' : Nat → β → StateT SortSt Sem (ForInStep β)} (hf : ∀ x b, Fine.fine ok b → Sim M Γ s ok (f x b) (f' x b)) : ∀ (l : List Nat) (b : β), Fine.fine ok b → Sim M Γ s ok (forIn l b f) (forIn l b f')
  | [], b, hb => by
    rw [List.forIn_nil, List.forIn_nil]
    exact sim_pure hb
  | x :: l, b, hb => by
    rw [List.forIn_cons, List.forIn_cons]
    refine sim_bind (hf x b hb) fun a ha => ?_
    cases a with
    | done b' => exact sim_pure ha
    | yield b' => exact sim_list hf l b' ha
theorem sim_range [Fine ok β] {r : Std.Legacy.Range} {f f' : Nat → β → StateT SortSt Sem (ForInStep β)} {b : β} (hb : Fine.fine ok b) (hf : ∀ x b, Fine.fine ok b → Sim M Γ s ok (f x b) (f' x b)) : Sim M Γ s ok (forIn r b f) (forIn r b f') := by
  rw [Std.Legacy.Range.forIn_eq_forIn_range', Std.Legacy.Range.forIn_eq_forIn_range']
  exact sim_list hf _ b hb
end
end My

/- the sort's own parts, each simulated by itself -/
namespace My
section
open PySem PyProof.Rows
variable {ok : Value → Prop} {M : Model} {Γ : Ctx} {s : Shared}
def Cmp (M : Model) (Γ : Ctx) (s : Shared) (ok : Value → Prop) : Prop := ∀ x y, ok x → ok y → ∃ b : Bool,
  (∀ p, Sem.wp M Γ (keyLt' oneType' x y) (fun b' _ s' => b' = b ∧ s' = s) (fun _ _ _ => False) p s) ∧
  ∀ p, Sem.wp M Γ (keyLt' (tuples' true) x y) (fun b' _ s' => b' = b ∧ s' = s) (fun _ _ _ => False) p s
theorem lt_run (x y : Keyed) (st : SortSt) : (lt' x y).run st = ((keyLt' (kindOf st) x.1 y.1).attempt >>= fun r => match r with
    | .ok b => pure (some b, st)
    | .error e => pure (none, SortSt.mk' (kindOf st) (arrOf st) (pendingOf st) (gallopOf st) (some e))) := by
  rw [lt'_eq]
  show ((keyLt' (kindOf st) x.1 y.1).attempt >>= fun r => pure (r, st)) >>= _ = _
  rw [bind_assoc]
  congr 1
  funext r
  cases r <;> rfl
theorem fine_optb (o : Option Bool) : Fine.fine ok o := fun _ _ => trivial
theorem sim_lt (hc : Cmp M Γ s ok) {x y : Keyed} (hx : ok x.1) (hy : ok y.1) : Sim M Γ s ok (lt' x y) (lt' x y) := fun st hst p₁ p₂ Q E₁ E₂ hq => by
  obtain ⟨b, h1, h2⟩ := hc x.1 y.1 hx hy
  rw [lt_run, Sem.wp_bind', Sem.wp_attempt] at hq
  rw [lt_run, Sem.wp_bind', Sem.wp_attempt, hst.kind]
  have hq' : ∃ p', Q (some b, K2 st) p' s := by
    rcases wp_meet _ (h2 p₂) hq with ⟨b', p', s', ⟨rfl, rfl⟩, hh⟩ | ⟨_, _, _, h, _⟩
    · exact ⟨p', hh⟩
    · exact h.elim
  refine Sem.wp_mono M Γ _ (fun b' p' s' h => ?_) (fun _ _ _ e => e.elim) _ _ (h1 p₁)
  obtain ⟨rfl, rfl⟩ := h
  exact ⟨rfl, fine_optb _, hst, hq'⟩
theorem sim_elem {arr : Array Keyed} {i : Nat} (h : Fine.fine ok arr) : Sim M Γ s ok (elem' arr i) (elem' arr i) := by
  rw [elem'_eq]
  cases e : arr[i]? with
  | some p => exact sim_pure (h p (Array.mem_of_getElem? e))
  | none => exact fun _ _ _ _ _ _ _ hq => (show False from hq).elim
theorem sim_unsup {α : Type} [Fine ok α] {what : String} : Sim M Γ s ok (liftM (unsupported what : Sem α) : StateT SortSt Sem α) (liftM (unsupported what : Sem α)) :=
  fun _ _ _ _ _ _ _ hq => (show False from hq).elim
theorem sim_ltAt (hc : Cmp M Γ s ok) {i j : Nat} : Sim M Γ s ok (ltAt' i j) (ltAt' i j) := by
  rw [ltAt'_eq]
  refine sim_get fun st hst => ?_
  refine sim_bind (sim_elem hst.all) fun x hx => sim_bind (sim_elem hst.all) fun y hy => sim_lt hc hx.1 hy.1
theorem fine_perm {a b : Array Keyed} (h : a.Perm b) (hb : Fine.fine ok b) : Fine.fine ok a := fun x hx => hb x (h.mem_iff.1 hx)
theorem sim_reverse {i j : Nat} : Sim M Γ s ok (reverseSlice' i j) (reverseSlice' i j) := by
  rw [reverseSlice'_eq]
  exact sim_modify fun st hst => ⟨⟨hst.kind, fine_perm (mirror_perm _ _ _ _) hst.all⟩, rfl⟩
theorem sim_move {i j : Nat} : Sim M Γ s ok (moveDown' i j) (moveDown' i j) := by
  rw [moveDown'_eq]
  exact sim_modify fun st hst => ⟨⟨hst.kind, fine_perm (bubble_perm _ _ _) hst.all⟩, rfl⟩
theorem sim_setMin {g : Nat} : Sim M Γ s ok (setMinGallop' g) (setMinGallop' g) := by
  rw [setMinGallop'_eq]
  exact sim_modify fun st hst => ⟨⟨hst.kind, hst.all⟩, rfl⟩
theorem sim_beyond (hc : Cmp M Γ s ok) {left : Bool} {key : Keyed} {arr : Array Keyed} {base i : Nat} (hk : Fine.fine ok key) (ha : Fine.fine ok arr) : Sim M Γ s ok (beyond' left key arr base i) (beyond' left key arr base i) := by
  unfold beyond'
  refine sim_bind (sim_elem ha) fun x hx => sim_ite (fun _ => sim_lt hc hx.1 hk.1) fun _ => sim_bind (sim_lt hc hk.1 hx.1) fun o _ => sim_pure (fine_optb _)
theorem sim_binary (hc : Cmp M Γ s ok) {lo n o : Nat} : Sim M Γ s ok (binarySort' lo n o) (binarySort' lo n o) := by
  rw [binarySort'_eq]
  refine sim_bind (sim_range (by simp [Fine.fine]) fun k b hb => ?_) fun a ha => ?_
  · try dsimp only
    refine sim_bind (sim_range (by simp [Fine.fine]) fun k' b' hb' => ?_) fun a' ha' => ?_
    · try dsimp only
      refine sim_ite (fun _ => sim_pure (by simp [Fine.fine])) fun _ => sim_bind (sim_ltAt hc) fun o _ => ?_
      cases o with
      | none => exact sim_pure (by simp [Fine.fine])
      | some less => exact sim_ite (fun _ => sim_pure (by simp [Fine.fine])) fun _ => sim_pure (by simp [Fine.fine])
    · try dsimp only
      cases a'.1 with
      | some r => exact sim_pure (by simp [Fine.fine])
      | none => exact sim_bind sim_move fun _ _ => sim_pure (by simp [Fine.fine])
  · try dsimp only
    cases a.1 with
    | some r => exact sim_pure (by simp [Fine.fine])
    | none => exact sim_pure (by simp [Fine.fine])
theorem sim_gallop (hc : Cmp M Γ s ok) {left : Bool} {key : Keyed} {arr : Array Keyed} {base n hint : Nat} (hk : Fine.fine ok key) (ha : Fine.fine ok arr) : Sim M Γ s ok (gallop' left key arr base n hint) (gallop' left key arr base n hint) := by
  rw [gallop'_eq]
  dsimp only
  have tail : ∀ lo hi : Nat, Sim M Γ s ok (forIn [0:n] ((none, lo, hi) : Option (Option Nat) × Nat × Nat) (fun _ r =>
      if r.2.1 ≥ r.2.2 then pure (ForInStep.done (none, r.2.1, r.2.2)) else do
        let o ← beyond' left key arr base (r.2.1 + (r.2.2 - r.2.1) / 2)
        match o with
          | some more => if more = true then pure (ForInStep.yield (none, r.2.1 + (r.2.2 - r.2.1) / 2 + 1, r.2.2)) else pure (ForInStep.yield (none, r.2.1, r.2.1 + (r.2.2 - r.2.1) / 2))
          | _ => pure (ForInStep.done (some none, r.2.1, r.2.2))))
      (forIn [0:n] ((none, lo, hi) : Option (Option Nat) × Nat × Nat) (fun _ r =>
      if r.2.1 ≥ r.2.2 then pure (ForInStep.done (none, r.2.1, r.2.2)) else do
        let o ← beyond' left key arr base (r.2.1 + (r.2.2 - r.2.1) / 2)
        match o with
          | some more => if more = true then pure (ForInStep.yield (none, r.2.1 + (r.2.2 - r.2.1) / 2 + 1, r.2.2)) else pure (ForInStep.yield (none, r.2.1, r.2.1 + (r.2.2 - r.2.1) / 2))
          | _ => pure (ForInStep.done (some none, r.2.1, r.2.2)))) := by
    intro lo hi
    refine sim_range (by simp [Fine.fine]) fun k b hb => sim_ite (fun _ => sim_pure (by simp [Fine.fine])) fun _ => sim_bind (sim_beyond hc hk ha) fun o _ => ?_
    cases o with
    | none => exact sim_pure (by simp [Fine.fine])
    | some more => exact sim_ite (fun _ => sim_pure (by simp [Fine.fine])) fun _ => sim_pure (by simp [Fine.fine])
  refine sim_bind (sim_beyond hc hk ha) fun o _ => ?_
  cases o with
  | none => exact sim_pure (by simp [Fine.fine])
  | some right =>
    dsimp only
    refine sim_ite (fun _ => ?_) fun _ => ?_
    · refine sim_bind (sim_range (by simp [Fine.fine]) fun k b hb => ?_) fun a _ => ?_
      · refine sim_ite (fun _ => sim_pure (by simp [Fine.fine])) fun _ => sim_bind (sim_beyond hc hk ha) fun o _ => ?_
        cases o with
        | none => exact sim_pure (by simp [Fine.fine])
        | some more => exact sim_ite (fun _ => sim_pure (by simp [Fine.fine])) fun _ => sim_pure (by simp [Fine.fine])
      · cases a.1 with
        | some r => exact sim_pure (by simp [Fine.fine])
        | none =>
          dsimp only
          refine sim_bind (tail _ _) fun c _ => ?_
          cases c.1 <;> exact sim_pure (by simp [Fine.fine])
    · refine sim_bind (sim_range (by simp [Fine.fine]) fun k b hb => ?_) fun a _ => ?_
      · refine sim_ite (fun _ => sim_pure (by simp [Fine.fine])) fun _ => sim_bind (sim_beyond hc hk ha) fun o _ => ?_
        cases o with
        | none => exact sim_pure (by simp [Fine.fine])
        | some more => exact sim_ite (fun _ => sim_pure (by simp [Fine.fine])) fun _ => sim_pure (by simp [Fine.fine])
      · cases a.1 with
        | some r => exact sim_pure (by simp [Fine.fine])
        | none =>
          dsimp only
          refine sim_bind (tail _ _) fun c _ => ?_
          cases c.1 <;> exact sim_pure (by simp [Fine.fine])
theorem sim_count (hc : Cmp M Γ s ok) {lo nrem : Nat} : Sim M Γ s ok (countRun' lo nrem) (countRun' lo nrem) := by
  rw [countRun'_eq]
  dsimp only
  repeat' (first
    | exact sim_pure (by simp [Fine.fine])
    | refine sim_ite (fun _ => ?_) fun _ => ?_
    | (refine sim_bind (sim_ltAt hc) fun o _ => ?_; cases o <;> (try dsimp only))
    | (refine sim_bind sim_reverse fun _ _ => ?_; (try dsimp only))
    | (refine sim_bind sim_rule fun _ _ => ?_; (try dsimp only))
    | (refine sim_bind (sim_range (by simp [Fine.fine]) fun k b hb => ?_) fun a _ => ?_; rotate_left; (obtain ⟨o, b⟩ := a; cases o <;> (try dsimp only))))
end
end My

/- the merges, simulated -/
namespace My
section
open PySem PyProof.Rows
variable {ok : Value → Prop} {M : Model} {Γ : Ctx} {s : Shared}
theorem fine_nat (n : Nat) : Fine.fine ok n := trivial
theorem fine_none {α : Type} [Fine ok α] : Fine.fine ok (none : Option α) := fun _ h => (nomatch h)
theorem fine_some {α : Type} [Fine ok α] {x : α} (h : Fine.fine ok x) : Fine.fine ok (some x) := fun _ e => by cases e; exact h
theorem fine_pair {α β : Type} [Fine ok α] [Fine ok β] {x : α} {y : β} (h1 : Fine.fine ok x) (h2 : Fine.fine ok y) : Fine.fine ok (x, y) := ⟨h1, h2⟩
theorem fine_three {α β γ : Type} [Fine ok α] [Fine ok β] [Fine ok γ] {x : α} {y : β} {z : γ} (h : Fine.fine ok (x, y, z)) : Fine.fine ok x ∧ Fine.fine ok y ∧ Fine.fine ok z := h
theorem fine_done {α : Type} [Fine ok α] {x : α} (h : Fine.fine ok x) : Fine.fine ok (ForInStep.done x) := h
theorem fine_yield {α : Type} [Fine ok α] {x : α} (h : Fine.fine ok x) : Fine.fine ok (ForInStep.yield x) := h
theorem fine_key {x : Keyed} (h : Fine.fine ok x) : ok x.1 := h.1
theorem fine_push {a : Array Keyed} {x : Keyed} (h : Fine.fine ok a) (hx : Fine.fine ok x) : Fine.fine ok (a.push x) := fun y hy => by
  rcases Array.mem_push.1 hy with hy | rfl
  · exact h y hy
  · exact hx
theorem fine_app {a b : Array Keyed} (h : Fine.fine ok a) (hb : Fine.fine ok b) : Fine.fine ok (a ++ b) := fun y hy => by
  rcases Array.mem_append.1 hy with hy | hy
  · exact h y hy
  · exact hb y hy
theorem fine_extract {a : Array Keyed} {i j : Nat} (h : Fine.fine ok a) : Fine.fine ok (a.extract i j) := fun y hy => h y (by
  rw [← Array.mem_toList_iff, Array.toList_extract] at hy
  rw [← Array.mem_toList_iff]
  exact List.mem_of_mem_drop (List.mem_of_mem_take hy))
theorem fine_rev {a : Array Keyed} (h : Fine.fine ok a) : Fine.fine ok a.reverse := fun y hy => h y (Array.mem_reverse.1 hy)
theorem fine_one {x : Keyed} (hx : Fine.fine ok x) : Fine.fine ok #[x] := fun y hy => by
  have : y = x := by simpa using hy
  rw [this]; exact hx
theorem fine_mid {γ : Type} [Fine ok γ] {r : Nat × Array Keyed × γ} (h : Fine.fine ok r) : Fine.fine ok r.2.1 := h.2.1
theorem fine_of_some {α : Type} [Fine ok α] {x : α} (h : Fine.fine ok (some x)) : Fine.fine ok x := h x rfl
set_option maxHeartbeats 4000000 in
theorem sim_lo (hc : Cmp M Γ s ok) {a b : Array Keyed} (ha : Fine.fine ok a) (hb : Fine.fine ok b) : Sim M Γ s ok (mergeLo' a b) (mergeLo' a b) := by
  rw [mergeLo'_eq]
  dsimp only
  repeat' (first
    | (with_reducible refine sim_pure ?_; (repeat' (first | with_reducible assumption | with_reducible exact fine_nat _ | with_reducible exact fine_none | with_reducible refine fine_pair ?_ ?_ | with_reducible refine fine_done ?_ | with_reducible refine fine_yield ?_ | with_reducible refine fine_some ?_ | with_reducible refine fine_push ?_ ?_ | with_reducible refine fine_app ?_ ?_ | with_reducible refine fine_extract ?_ | with_reducible refine fine_rev ?_ | with_reducible refine fine_one ?_ | with_reducible exact fine_of_some (by with_reducible assumption) | with_reducible exact fine_mid (by with_reducible assumption))); done)
    | with_reducible refine sim_ite (fun _ => ?_) fun _ => ?_
    | (with_reducible refine sim_bind (sim_elem (by with_reducible assumption)) fun _ _ => ?_; (try dsimp only))
    | (with_reducible refine sim_bind (sim_lt hc (fine_key (by with_reducible assumption)) (fine_key (by with_reducible assumption))) fun o _ => ?_; cases o <;> (try dsimp only))
    | (with_reducible refine sim_bind (sim_gallop hc (by with_reducible assumption) (by with_reducible assumption)) fun o _ => ?_; cases o <;> (try dsimp only))
    | (with_reducible refine sim_bind sim_setMin fun _ _ => ?_; (try dsimp only))
    | (with_reducible refine sim_bind sim_rule fun _ _ => ?_; (try dsimp only))
    | (with_reducible refine sim_bind (sim_range ?hfz fun k b hb => ?_) fun a ha' => ?_; (case hfz => (repeat' (first | with_reducible assumption | with_reducible exact fine_nat _ | with_reducible exact fine_none | with_reducible refine fine_pair ?_ ?_ | with_reducible refine fine_done ?_ | with_reducible refine fine_yield ?_ | with_reducible refine fine_some ?_ | with_reducible refine fine_push ?_ ?_ | with_reducible refine fine_app ?_ ?_ | with_reducible refine fine_extract ?_ | with_reducible refine fine_rev ?_ | with_reducible refine fine_one ?_ | with_reducible exact fine_of_some (by with_reducible assumption) | with_reducible exact fine_mid (by with_reducible assumption)))); (obtain ⟨o1, out1, r1⟩ := b; obtain ⟨hb1, hb2, hb3⟩ := fine_three hb; (try dsimp only)); (rotate_left); (obtain ⟨o2, out2, r2⟩ := a; obtain ⟨ha1, ha2, ha3⟩ := fine_three ha'; (rcases o2 with _ | r9) <;> (try (have hr9 := ha1 _ rfl)) <;> (try dsimp only)))
    | exact sim_unsup
    | (refine sim_get fun st hst => ?_; (try simp only [arr_K2, pend_K2, gal_K2, fail_K2]); (try dsimp only)))
set_option maxHeartbeats 4000000 in
theorem sim_hi (hc : Cmp M Γ s ok) {a b : Array Keyed} (ha : Fine.fine ok a) (hb : Fine.fine ok b) : Sim M Γ s ok (mergeHi' a b) (mergeHi' a b) := by
  rw [mergeHi'_eq]
  dsimp only
  repeat' (first
    | (with_reducible refine sim_pure ?_; (repeat' (first | with_reducible assumption | with_reducible exact fine_nat _ | with_reducible exact fine_none | with_reducible refine fine_pair ?_ ?_ | with_reducible refine fine_done ?_ | with_reducible refine fine_yield ?_ | with_reducible refine fine_some ?_ | with_reducible refine fine_push ?_ ?_ | with_reducible refine fine_app ?_ ?_ | with_reducible refine fine_extract ?_ | with_reducible refine fine_rev ?_ | with_reducible refine fine_one ?_ | with_reducible exact fine_of_some (by with_reducible assumption) | with_reducible exact fine_mid (by with_reducible assumption))); done)
    | with_reducible refine sim_ite (fun _ => ?_) fun _ => ?_
    | (with_reducible refine sim_bind (sim_elem (by with_reducible assumption)) fun _ _ => ?_; (try dsimp only))
    | (with_reducible refine sim_bind (sim_lt hc (fine_key (by with_reducible assumption)) (fine_key (by with_reducible assumption))) fun o _ => ?_; cases o <;> (try dsimp only))
    | (with_reducible refine sim_bind (sim_gallop hc (by with_reducible assumption) (by with_reducible assumption)) fun o _ => ?_; cases o <;> (try dsimp only))
    | (with_reducible refine sim_bind sim_setMin fun _ _ => ?_; (try dsimp only))
    | (with_reducible refine sim_bind sim_rule fun _ _ => ?_; (try dsimp only))
    | (with_reducible refine sim_bind (sim_range ?hfz fun k b hb => ?_) fun a ha' => ?_; (case hfz => (repeat' (first | with_reducible assumption | with_reducible exact fine_nat _ | with_reducible exact fine_none | with_reducible refine fine_pair ?_ ?_ | with_reducible refine fine_done ?_ | with_reducible refine fine_yield ?_ | with_reducible refine fine_some ?_ | with_reducible refine fine_push ?_ ?_ | with_reducible refine fine_app ?_ ?_ | with_reducible refine fine_extract ?_ | with_reducible refine fine_rev ?_ | with_reducible refine fine_one ?_ | with_reducible exact fine_of_some (by with_reducible assumption) | with_reducible exact fine_mid (by with_reducible assumption)))); (obtain ⟨o1, out1, r1⟩ := b; obtain ⟨hb1, hb2, hb3⟩ := fine_three hb; (try dsimp only)); (rotate_left); (obtain ⟨o2, out2, r2⟩ := a; obtain ⟨ha1, ha2, ha3⟩ := fine_three ha'; (rcases o2 with _ | r9) <;> (try (have hr9 := ha1 _ rfl)) <;> (try dsimp only)))
    | exact sim_unsup
    | (refine sim_get fun st hst => ?_; (try simp only [arr_K2, pend_K2, gal_K2, fail_K2]); (try dsimp only)))
end
end My

/- the whole sort, simulated; what it does with lists of whole numbers -/
namespace My
section
open PySem PyProof.Rows
variable {ok : Value → Prop} {M : Model} {Γ : Ctx} {s : Shared}
theorem sim_get' {β : Type} [Fine ok β] {f : SortSt → StateT SortSt Sem β} (he : ∀ st, f (K2 st) = f st) (hf : ∀ st, FineSt ok st → Sim M Γ s ok (f st) (f st)) : Sim M Γ s ok (get >>= f) (get >>= f) := sim_get fun st hst => by rw [he]; exact hf st hst
theorem fine_put {sa : Nat} : ∀ (l : List (Keyed × Nat)) (a : Array Keyed), (∀ q ∈ l, Fine.fine ok q.1) → Fine.fine ok a → Fine.fine ok (l.foldl (fun a x => match x with | (p, j) => Array.setIfInBounds a (sa + j) p) a)
  | [], _, _, ha => ha
  | (p, j) :: r, a, hl, ha => by
    rw [List.foldl_cons]
    refine fine_put r _ (fun q hq => hl q (List.mem_cons_of_mem _ hq)) fun y hy => ?_
    rcases Array.mem_or_eq_of_mem_setIfInBounds hy with h | rfl
    · exact ha y h
    · exact hl _ List.mem_cons_self
theorem fine_zip {m : Array Keyed} (h : Fine.fine ok m) : ∀ q ∈ List.zipIdx (Array.toList m), Fine.fine ok q.1 := fun q hq => by
  have := List.fst_mem_of_mem_zipIdx hq
  exact h q.1 (Array.mem_toList_iff.1 this)
theorem sim_at (hc : Cmp M Γ s ok) {i : Nat} : Sim M Γ s ok (mergeAt' i) (mergeAt' i) := by
  rw [mergeAt'_eq]
  refine sim_get fun st hst => ?_
  have hall := hst.all
  simp only [arr_K2, pend_K2]
  rcases (pendingOf st)[i]? with _ | ⟨sa, na, pw⟩
  · exact sim_unsup
  · rcases (pendingOf st)[i + 1]? with _ | ⟨sb, nb, pw2⟩
    · exact sim_unsup
    · dsimp only
      refine sim_bind (sim_set (ok := ok) ⟨hst.kind, hst.all⟩ rfl) fun _ _ => ?_
      refine sim_bind (sim_elem hall) fun x hx => sim_bind (sim_gallop hc hx hall) fun o _ => ?_
      cases o with
      | none => exact sim_pure trivial
      | some k =>
        try dsimp only
        refine sim_ite (fun _ => sim_pure trivial) fun _ => ?_
        refine sim_bind (sim_elem hall) fun x hx => sim_bind (sim_gallop hc hx hall) fun o _ => ?_
        cases o with
        | none => exact sim_pure trivial
        | some nb' =>
          try dsimp only
          refine sim_ite (fun _ => sim_pure trivial) fun _ => ?_
          have jp : ∀ m : Array Keyed, Fine.fine ok m → Sim M Γ s ok (modify (fun s => setArr s (List.foldl (fun a x => match x with | (p, j) => Array.setIfInBounds a (sa + k + j) p) (arrOf s) (List.zipIdx (Array.toList m)))) >>= fun _ => get >>= fun q => pure (Option.isNone (failedOf q)))
              (modify (fun s => setArr s (List.foldl (fun a x => match x with | (p, j) => Array.setIfInBounds a (sa + k + j) p) (arrOf s) (List.zipIdx (Array.toList m)))) >>= fun _ => get >>= fun q => pure (Option.isNone (failedOf q))) := by
            intro m hm
            refine sim_bind (sim_modify fun st' hst' => ⟨⟨hst'.kind, fine_put _ _ (fine_zip hm) hst'.all⟩, rfl⟩) fun _ _ => sim_get fun st' hst' => sim_pure trivial
          refine sim_ite (fun _ => ?_) fun _ => ?_
          · exact sim_bind (sim_lo hc (fine_extract hall) (fine_extract hall)) fun m hm => jp m hm
          · exact sim_bind (sim_hi hc (fine_extract hall) (fine_extract hall)) fun m hm => jp m hm
set_option maxHeartbeats 1000000 in
theorem sim_runs (hc : Cmp M Γ s ok) : Sim M Γ s ok sortRuns' sortRuns' := by
  rw [sortRuns'_eq]
  refine sim_get' (fun _ => rfl) fun st hst => ?_
  try dsimp only
  refine sim_bind (sim_range (by simp [Fine.fine]) fun k b hb => ?_) fun a ha => ?_
  · refine sim_ite (fun _ => sim_pure (by simp [Fine.fine])) fun _ => sim_bind (sim_count hc) fun o _ => ?_
    cases o with
    | none => exact sim_pure (by simp [Fine.fine])
    | some found =>
      try dsimp only
      refine sim_ite (fun _ => ?_) fun _ => ?_
      · refine sim_bind sim_rule fun _ _ => sim_bind (sim_binary hc) fun o _ => sim_ite (fun _ => sim_pure (by simp [Fine.fine])) fun _ => ?_
        refine sim_get' (fun _ => rfl) fun st2 hst2 => ?_
        try dsimp only
        split
        · refine sim_bind (sim_range (by simp [Fine.fine]) fun k2 b2 hb2 => ?_) fun a2 ha2 => ?_
          · refine sim_get' (fun _ => rfl) fun st3 hst3 => ?_
            try dsimp only
            split
            · exact sim_ite (fun _ => sim_pure (by simp [Fine.fine])) fun _ => sim_bind (sim_at hc) fun o _ => sim_ite (fun _ => sim_pure (by simp [Fine.fine])) fun _ => sim_pure (by simp [Fine.fine])
            · exact sim_pure (by simp [Fine.fine])
          · rcases a2 with ⟨o2, u2⟩
            cases o2 with
            | some r => exact sim_pure (by simp [Fine.fine])
            | none => exact sim_bind (sim_modify fun st' hst' => ⟨⟨hst'.kind, hst'.all⟩, rfl⟩) fun _ _ => sim_bind (sim_modify fun st' hst' => ⟨⟨hst'.kind, hst'.all⟩, rfl⟩) fun _ _ => sim_pure (by simp [Fine.fine])
        · exact sim_bind (sim_modify fun st' hst' => ⟨⟨hst'.kind, hst'.all⟩, rfl⟩) fun _ _ => sim_pure (by simp [Fine.fine])
      · skip
        refine sim_get' (fun _ => rfl) fun st2 hst2 => ?_
        try dsimp only
        split
        · refine sim_bind (sim_range (by simp [Fine.fine]) fun k2 b2 hb2 => ?_) fun a2 ha2 => ?_
          · refine sim_get' (fun _ => rfl) fun st3 hst3 => ?_
            try dsimp only
            split
            · exact sim_ite (fun _ => sim_pure (by simp [Fine.fine])) fun _ => sim_bind (sim_at hc) fun o _ => sim_ite (fun _ => sim_pure (by simp [Fine.fine])) fun _ => sim_pure (by simp [Fine.fine])
            · exact sim_pure (by simp [Fine.fine])
          · rcases a2 with ⟨o2, u2⟩
            cases o2 with
            | some r => exact sim_pure (by simp [Fine.fine])
            | none => exact sim_bind (sim_modify fun st' hst' => ⟨⟨hst'.kind, hst'.all⟩, rfl⟩) fun _ _ => sim_bind (sim_modify fun st' hst' => ⟨⟨hst'.kind, hst'.all⟩, rfl⟩) fun _ _ => sim_pure (by simp [Fine.fine])
        · exact sim_bind (sim_modify fun st' hst' => ⟨⟨hst'.kind, hst'.all⟩, rfl⟩) fun _ _ => sim_pure (by simp [Fine.fine])
  · rcases a with ⟨o2, u2⟩
    cases o2 with
    | some r => exact sim_pure (by simp [Fine.fine])
    | none =>
      try dsimp only
      refine sim_bind (sim_range (by simp [Fine.fine]) fun k2 b2 hb2 => ?_) fun a2 ha2 => ?_
      · refine sim_get' (fun _ => rfl) fun st3 hst3 => ?_
        try dsimp only
        exact sim_ite (fun _ => sim_pure (by simp [Fine.fine])) fun _ => sim_bind (sim_at hc) fun o _ => sim_ite (fun _ => sim_pure (by simp [Fine.fine])) fun _ => sim_pure (by simp [Fine.fine])
      · rcases a2 with ⟨o3, u3⟩
        cases o3 <;> exact sim_pure (by simp [Fine.fine])
end
end My

/- rows of whole numbers: their order, their comparisons, what the sort makes of them -/
namespace My
section
open PySem PySem.W PyProof.Rows
theorem bz_irrefl : ∀ a : List Int, beforeZ a a = false
  | [] => rfl
  | x :: r => by rw [beforeZ, bz_irrefl r]; simp
theorem bz_trans : ∀ a b c : List Int, beforeZ a b = true → beforeZ b c = true → beforeZ a c = true
  | [], [], _, h, _ => by simp [beforeZ] at h
  | [], _ :: _, [], _, h => by simp [beforeZ] at h
  | [], _ :: _, _ :: _, _, _ => rfl
  | _ :: _, [], _, h, _ => by simp [beforeZ] at h
  | _ :: _, _ :: _, [], _, h => by simp [beforeZ] at h
  | x :: r, y :: q, z :: t, h1, h2 => by
    have ih := bz_trans r q t
    simp only [beforeZ, Bool.or_eq_true, Bool.and_eq_true, decide_eq_true_eq, beq_iff_eq] at h1 h2 ⊢
    rcases h1 with h1 | ⟨h1, h1'⟩ <;> rcases h2 with h2 | ⟨h2, h2'⟩
    · left; omega
    · left; omega
    · left; omega
    · right; exact ⟨by omega, ih h1' h2'⟩
theorem bz_total : ∀ a b : List Int, beforeZ a b = false → beforeZ b a = false → a = b
  | [], [], _, _ => rfl
  | [], _ :: _, h, _ => by simp [beforeZ] at h
  | _ :: _, [], _, h => by simp [beforeZ] at h
  | x :: r, y :: q, h1, h2 => by
    have ih := bz_total r q
    simp only [beforeZ, Bool.or_eq_false_iff, Bool.and_eq_false_iff, decide_eq_false_iff_not, beq_eq_false_iff_ne] at h1 h2
    have e : x = y := by omega
    subst e
    rw [ih (h1.2.resolve_left fun q => q rfl) (h2.2.resolve_left fun q => q rfl)]
theorem bz_neg (a b c : List Int) (h : beforeZ a c = true) : beforeZ a b = true ∨ beforeZ b c = true := by
  cases hab : beforeZ a b with
  | true => exact .inl rfl
  | false =>
    right
    cases hba : beforeZ b a with
    | true => exact bz_trans b a c hba h
    | false =>
      have := bz_total a b hab hba
      rw [← this]; exact h
def RowAt (h : Heap) (v : Value) (l : List Int) : Prop := ∃ a its, v = .ref a ∧ h.IsList a (List.toArray its) ∧ IntsAre its l
theorem RowAt.keep {h h' : Heap} {v : Value} {l : List Int} (r : RowAt h v l) (k : ∀ b o, h.get? b = some o → h'.get? b = some o) : RowAt h' v l := by
  obtain ⟨a, its, rfl, hl, hi⟩ := r
  exact ⟨a, its, rfl, hl.at fun o e => k a o e, hi⟩
theorem ints_one : ∀ {its : List Value} {l l' : List Int}, IntsAre its l → IntsAre its l' → l = l'
  | _, _, _, .nil, .nil => rfl
  | _, _, _, .cons n t h, .cons _ _ h' => by rw [ints_one h h']
theorem RowAt.one {h : Heap} {v : Value} {l l' : List Int} (r : RowAt h v l) (r' : RowAt h v l') : l = l' := by
  obtain ⟨a, its, rfl, ⟨o, ho, _, n, hd⟩, hi⟩ := r
  obtain ⟨a', its', e, ⟨o', ho', _, n', hd'⟩, hi'⟩ := r'
  cases e
  rw [ho] at ho'
  cases ho'
  rw [hd] at hd'
  have e2 : its = its' := by
    have := (Data.seq.inj hd').1
    simpa using this
  subst e2
  exact ints_one hi hi'
open Classical in
noncomputable def rowKey (h : Heap) (v : Value) : Option (List Int) := if e : ∃ l, RowAt h v l then some e.choose else none
theorem rowKey_of {h : Heap} {v : Value} {l : List Int} (r : RowAt h v l) : rowKey h v = some l := by
  unfold rowKey
  rw [dif_pos ⟨l, r⟩]
  exact congrArg some (RowAt.one (Exists.choose_spec ⟨l, r⟩) r)
theorem rowKey_at {h : Heap} {v : Value} {l : List Int} (e : rowKey h v = some l) : RowAt h v l := by
  unfold rowKey at e
  split at e
  · rename_i q
    have := Option.some.inj e
    rw [← this]
    exact q.choose_spec
  · cases e
@[reducible] noncomputable def rowKind (h : Heap) : KeyKind where
  α := List Int
  blt := beforeZ
  irrefl := bz_irrefl
  trans := bz_trans
  negTrans := bz_neg
  total := bz_total
  keyOf := rowKey h
  dflt := []
variable {prog : Program} {w : World} {A : Around} {E : Value → Shared → Prop} {s : Shared}
theorem kat_ints {b fin : Bool} {Q : Bool → Shared → Prop} : ∀ (ps qs : List Value) (as bs : List Int) (i : Nat), IntsAre ps as → IntsAre qs bs → fin = decide (ps.length < qs.length) → Q (beforeZ as bs) s → KatLex prog w A b fin Q (ps.zip qs) i s
  | _, _, _, _, i, .nil, .nil, hf, h => by subst hf; exact kat_nil h
  | _, _, _, _, i, .nil, .cons n t r, hf, h => by
    have : fin = true := by rw [hf]; simp
    subst this; exact kat_nil h
  | _, _, _, _, i, .cons n t r, .nil, hf, h => by
    have : fin = false := by rw [hf]; simp
    subst this; exact kat_nil h
  | _, _, _, _, i, .cons (vs := ps) (ns := as) n t r, .cons (vs := qs) (ns := bs) m u r', hf, h => by
    have hf' : fin = decide (ps.length < qs.length) := by rw [hf]; simp
    refine kat_cons (wpAny_eqBool_int (kat_go (fun e => kat_yes ?_) fun e => kat_no ?_))
    · have hnm : n = m := by simpa using e
      refine kat_ints ps qs as bs (i + 1) r r' hf' ?_
      have e2 : beforeZ (n :: as) (m :: bs) = beforeZ as bs := by rw [beforeZ, hnm]; simp
      rw [← e2]; exact h
    · have hnm : ¬ n = m := by simpa using e
      have e2 : beforeZ (n :: as) (m :: bs) = decide (n < m) := by rw [beforeZ]; simp [hnm]
      rw [e2] at h
      exact oneLt_any_int h
theorem tup_lt {x y : Value} {a b : List Int} {Q : Bool → Shared → Prop} (hx : RowAt s.heap x a) (hy : RowAt s.heap y b) (h : Q (beforeZ a b) s) : wpAny (model prog w) A (keyLt' (tuples' true) x y) Q E s := by
  obtain ⟨p, ps, rfl, ⟨o, ho, _, n, hd⟩, hi⟩ := hx
  obtain ⟨q, qs, rfl, ⟨o', ho', _, n', hd'⟩, hi'⟩ := hy
  refine kat_lt ho hd ho' hd' (kat_ints _ _ a b 0 ?_ ?_ ?_ h)
  · exact hi
  · exact hi'
  · simp
theorem one_lt {x y : Value} {a b : List Int} {Q : Bool → Shared → Prop} (hu : A.units + 64 < cLine) (hx : RowAt s.heap x a) (hy : RowAt s.heap y b) (h : Q (beforeZ a b) s) : wpAny (model prog w) A (keyLt' oneType' x y) Q E s := by
  obtain ⟨p, ps, rfl, ⟨⟨cls, dd, data, sl⟩, ho, hc, n, hd⟩, hi⟩ := hx
  obtain ⟨q, qs, rfl, ⟨⟨cls2, dd2, data2, sl2⟩, ho', hc', n', hd'⟩, hi'⟩ := hy
  simp only at hc hd hc' hd'
  subst hc hd hc' hd'
  rw [keyLt'_oneType, oneLt'_eq]
  simp only [if_true]
  refine wpAny_bind (wpAny_cRoomFor (by omega) ?_)
  refine wpAny_bind (wpAny_callSpecialIfBound?_slot (T := "list") ⟨_, ho, rfl⟩ PySem.F.slot_list_lt ?_)
  refine call_meets PySem.F.slot_list_lt ⟨_, ho, rfl⟩ PySem.F.entry_list_lt (PySem.F.args_list_lt_2 _ _) (list_lt p q ps qs a b n n' dd dd2 sl sl2 hi hi') ⟨ho, ho', ?_⟩
  exact wpAny_truthy_bool h
theorem row_ltAt {g : Heap} (k : ∀ b o, g.get? b = some o → s.heap.get? b = some o) : G.LtAt prog w s (rowKind g) (tuples' true) := by
  intro A E x y a b Q hx hy hq
  exact tup_lt ((rowKey_at hx).keep k) ((rowKey_at hy).keep k) hq
theorem row_cmp {g : Heap} (k : ∀ b o, g.get? b = some o → s.heap.get? b = some o) (hu : A.units + 64 < cLine) {Γ : Ctx} (hΓ : Γ.In A) : Cmp (model prog w) Γ s (fun v => ∃ l, RowAt g v l) := by
  rintro x y ⟨a, hx⟩ ⟨b, hy⟩
  refine ⟨beforeZ a b, fun p => ?_, fun p => ?_⟩
  · exact one_lt (A := A) (prog := prog) (w := w) (E := fun _ _ => False) (Q := fun b' s' => b' = beforeZ a b ∧ s' = s) hu (hx.keep k) (hy.keep k) ⟨rfl, rfl⟩ Γ p hΓ
  · exact tup_lt (A := A) (prog := prog) (w := w) (E := fun _ _ => False) (Q := fun b' s' => b' = beforeZ a b ∧ s' = s) (hx.keep k) (hy.keep k) ⟨rfl, rfl⟩ Γ p hΓ
theorem runs_rows {g : Heap} {a₀ : Array Keyed} (k : ∀ b o, g.get? b = some o → s.heap.get? b = some o) (hu : A.units + 64 < cLine) (h2 : 2 ≤ a₀.size) (hk : ∀ q ∈ a₀, (∃ l, RowAt g q.1 l) ∧ ∃ l, RowAt g q.2 l) :
    wpAny (model prog w) A (sortRuns'.run (SortSt.mk' oneType' a₀ #[] 7 none)) (fun r s' => s' = s ∧ (arrOf r.2).Perm a₀ ∧ failedOf r.2 = none ∧ SortedToK (rowKind g) (arrOf r.2) a₀.size) E s := by
  intro Γ p hΓ
  have h0 : KeysOf (rowKind g) a₀ := fun q hq => by
    obtain ⟨l, hl⟩ := (hk q (Array.mem_toList_iff.1 hq)).1
    exact ⟨l, rowKey_of hl⟩
  have W2 : wpS (model prog w) A E s sortRuns' (fun _ st' => (arrOf st').Perm a₀ ∧ failedOf st' = none ∧ SortedToK (rowKind g) (arrOf st') a₀.size) (K2 (SortSt.mk' oneType' a₀ #[] 7 none)) :=
    G.wpS_sortRunsSt (κ := rowKind g) (kd := tuples' true) (a₀ := a₀) (row_ltAt k) h0 ⟨Array.Perm.refl _, rfl, rfl⟩ rfl (Stable.refl _) h2 fun st' x1 x2 x3 _ => ⟨x1, x2, x3⟩
  have S := sim_runs (row_cmp (prog := prog) (w := w) k hu hΓ) (SortSt.mk' oneType' a₀ #[] 7 none) ⟨rfl, hk⟩ p p _ (fun e _ s' => E e s') (fun e _ s' => E e s') (W2 Γ p hΓ)
  refine Sem.wp_mono _ _ _ (fun r p' s' h => ?_) (fun _ _ _ e => e) _ _ S
  obtain ⟨rfl, _, _, _, _, hh⟩ := h
  exact ⟨rfl, hh⟩
end
end My

/- sorted(rows): a step of the walk -/
namespace My
section
open PySem PySem.W PyProof.Rows
variable {prog : Program} {w : World} {A : Around} {E : Value → Shared → Prop} {s : Shared}
theorem ls_rows {g : Heap} {a : Addr} {vs : List Value} {n : Nat} {P : Fin → Shared → Prop} (hu : A.units + 64 < cLine) (hin : s.heap.get? a = some (seqObj "list" vs.toArray n))
    (k : ∀ b o, g.get? b = some o → (G.sortHeap6 s.heap a vs).get? b = some o) (hr : ∀ v ∈ vs, ∃ l, RowAt g v l) (hL : vs.length ≤ sizeLine)
    (h : ∀ ar : Array Keyed, ar.Perm (pairsOf vs) → SortedToK (rowKind g) ar (pairsOf vs).size → P (.done (.ret .none)) { s with heap := sortedHeap s.heap a vs (ar.map (·.2)) }) :
    wpAny (model prog w) A (Builtin.«list.sort» ⟨[.ref a], []⟩) P E s := by
  have hline := hL
  rw [sizeLine_eq] at hline
  have alt : a < s.heap.objs.size := Heap.lt_size hin
  rw [list_sort_plain]
  refine wpAny_bind (listItems_at hin rfl (wpAny_bind (listUpdate_at hin rfl ?_)))
  obtain ⟨c1, q1⟩ : ∃ c1, (s.heap.update a (Obj.mapSeq fun _ => #[])).get? a = some (seqObj "list" #[] c1) := ⟨_, get?_update_seq hin (fun _ => #[])⟩
  refine wpAny_bind (seqEpoch_at q1 rfl (wpAny_bind (wpAny_newTuple (wpAny_bind (wpAny_newList (wpAny_holding ?_))))))
  have q6 : (G.sortHeap6 s.heap a vs).get? a = some (seqObj "list" #[] c1) := by
    unfold G.sortHeap6
    rw [Heap.get?_push_ne _ _ _ (by rw [size_push', Heap.size_update]; exact Nat.ne_of_lt (Nat.lt_succ_of_lt alt)), Heap.get?_push_ne _ _ _ (by rw [Heap.size_update]; exact Nat.ne_of_lt alt)]
    exact q1
  show wpAny (model prog w) A _ P E { s with heap := G.sortHeap6 s.heap a vs }
  dsimp only
  have vsz : vs.toArray.size = vs.length := by simp
  by_cases few : vs.toArray.size < 2
  · rw [if_pos few, if_pos few]
    refine wpAny_bind (wpAny_pure ?_)
    rw [StateT.run_pure]
    refine wpAny_bind (wpAny_pure ?_)
    dsimp only
    refine wpAny_bind (seqEpoch_at q6 rfl (wpAny_bind (listUpdate_at q6 rfl ?_ (hsz2 := by rw [Array.size_map]; show (pairsOf vs).size ≤ _; rw [pairsOf_size, sizeLine_eq]; omega))))
    simp only [bne_self_eq_false, Bool.false_eq_true, if_false]
    refine wpAny_pure (h (pairsOf vs) (Array.Perm.refl _) ?_)
    intro i j hij hj
    have e : i = j := by rw [pairsOf_size] at hj; omega
    subst e
    exact KeyOrd.kle_refl _
  · rw [if_neg few, if_neg few]
    have two : 2 ≤ vs.length := by omega
    refine wpAny_bind (kas_kind (T := Value.type "list") two (fun v hv => ?_) (by decide) (by decide) ?_)
    · intro A' Q' E' s' keep hq
      obtain ⟨l, p, its, rfl, ⟨o, ho, hcl, _⟩, _⟩ := hr v hv
      exact wpAny_typeOf ⟨o, keep p o (k p o ho), hcl⟩ hq
    · refine wpAny_bind (wpAny_mono (runs_rows (g := g) (a₀ := pairsOf vs) (s := { s with heap := G.sortHeap6 s.heap a vs }) k hu (by rw [pairsOf_size]; exact two) ?_) ?_ fun _ _ e => e)
      · intro q hq
        have hq' := mem_zip_self (by rw [← pairsOf_toList]; exact Array.mem_toList_iff.2 hq)
        exact ⟨hr _ hq'.2, by rw [← hq'.1]; exact hr _ hq'.2⟩
      · rintro ⟨⟨⟩, st'⟩ s' ⟨rfl, hp, hf, hs⟩
        dsimp only
        refine wpAny_bind (seqEpoch_at q6 rfl (wpAny_bind (listUpdate_at q6 rfl ?_ (hsz2 := by refine Nat.le_trans (Nat.le_of_eq ((Array.size_map ..).trans (hp.size_eq.trans (pairsOf_size _)))) ?_; rw [sizeLine_eq]; omega))))
        rw [hf]
        simp only [bne_self_eq_false, Bool.false_eq_true, if_false]
        exact wpAny_pure (h (arrOf st') hp hs)
noncomputable def rk (g : Heap) (v : Value) : List Int := (rowKey g v).getD []
theorem rk_of {g : Heap} {v : Value} {l : List Int} (h : RowAt g v l) : rk g v = l := by unfold rk; rw [rowKey_of h]; rfl
theorem sorted_rows {g : Heap} {vs : List Value} {ar : Array Keyed} (hr : ∀ v ∈ vs, ∃ l, RowAt g v l) (hp : ar.Perm (pairsOf vs)) (hs : SortedToK (rowKind g) ar (pairsOf vs).size) :
    (ar.map (·.2)).toList.Perm vs ∧ ((ar.map (·.2)).toList.map (rk g)).Pairwise (fun a b => beforeZ b a = false) := by
  have hmem : ∀ q ∈ ar, q.1 = q.2 ∧ q.1 ∈ vs := fun q hq => mem_zip_self (by rw [← pairsOf_toList]; exact Array.mem_toList_iff.2 (hp.mem_iff.1 hq))
  constructor
  · have h1 : (ar.toList.map (·.2)).Perm ((pairsOf vs).toList.map (·.2)) := (Array.perm_iff_toList_perm.1 hp).map _
    rw [pairsOf_toList] at h1
    have h2 : (vs.zip vs).map (·.2) = vs := by rw [List.map_snd_zip (Nat.le_refl _)]
    rw [h2] at h1
    simpa using h1
  · rw [List.pairwise_iff_getElem]
    intro i j hi hj hij
    have hj' : j < ar.size := by simpa using hj
    have hi' : i < ar.size := by simpa using hi
    have t := hs i j (Nat.le_of_lt hij) (by rw [← hp.size_eq]; exact hj')
    have key : ∀ (x : Nat) (hx : x < ar.size), KK (rowKind g) ar x = rk g ar[x].2 := fun x hx => by
      unfold KK
      rw [Array.getElem?_eq_getElem hx]
      have e := hmem ar[x] (Array.getElem_mem hx)
      show (rowKey g ar[x].1).getD [] = _
      rw [e.1]; rfl
    rw [key i hi', key j hj'] at t
    have t' : beforeZ (rk g ar[j].2) (rk g ar[i].2) = false := t
    simpa using t'
theorem sorted_one : ∀ (a b : List (List Int)), a.Perm b → a.Pairwise (fun x y => beforeZ y x = false) → b.Pairwise (fun x y => beforeZ y x = false) → a = b
  | [], b, h, _, _ => (List.nil_perm.1 h).symm
  | x :: r, [], h, _, _ => by cases List.perm_nil.1 h
  | x :: r, y :: q, h, ha, hb => by
    have ha' := List.pairwise_cons.1 ha
    have hb' := List.pairwise_cons.1 hb
    have e : x = y := by
      have h1 : x ∈ y :: q := h.mem_iff.1 List.mem_cons_self
      have h2 : y ∈ x :: r := h.mem_iff.2 List.mem_cons_self
      rcases List.mem_cons.1 h1 with e | h1
      · exact e
      · rcases List.mem_cons.1 h2 with e | h2
        · exact e.symm
        · exact bz_total x y (hb'.1 x h1) (ha'.1 y h2)
    subst e
    rw [sorted_one r q (List.perm_cons x |>.1 h) ha'.2 hb'.2]
theorem merge_sorted (rows : List (List Int)) : (rows.mergeSort (fun a b => !beforeZ b a)).Pairwise (fun x y => beforeZ y x = false) := by
  have := List.pairwise_mergeSort (le := fun a b => !beforeZ b a) (fun a b c h1 h2 => ?_) (fun a b => ?_) rows
  · exact this.imp fun h => by simpa using h
  · simp only [Bool.not_eq_true'] at h1 h2 ⊢
    cases hca : beforeZ c a with
    | false => rfl
    | true =>
      rcases bz_neg c b a hca with h | h
      · rw [h2] at h; cases h
      · rw [h1] at h; cases h
  · cases hba : beforeZ b a with
    | false => rfl
    | true =>
      cases hab : beforeZ a b with
      | false => rfl
      | true =>
        have := bz_trans a b a hab hba
        rw [bz_irrefl] at this
        cases this
variable {h₀ : Heap} {L : Addr} {m : Str → Option Value}
theorem srt_rows {l : Addr} {vs : List Value} {news : List (Addr × Obj)} {Q : Value → Shared → Prop} (hu : A.units + 100 < cLine) (F : Fr h₀ L s.heap m) (N : News h₀ L s.heap news) (hl : s.heap.IsList l vs.toArray)
    (hr : ∀ v ∈ vs, ∃ r, RowAt h₀ v r) (hL : vs.length ≤ sizeLine)
    (h : ∀ (D : Addr) (vs' : List Value) (c : Nat) h', Fr h₀ L h' m → News h₀ L h' ((D, listOf (List.toArray vs') c) :: news) → (∀ p ∈ news, p.1 < D) → vs'.Perm vs → vs'.map (rk h₀) = (vs.map (rk h₀)).mergeSort (fun a b => !beforeZ b a) → Q (.ref D) { s with heap := h' }) :
    wpAny (model prog w) A (call (.builtin "sorted") [.ref l]) Q E s := by
  refine Calls.call_function_entry kind_sorted plain_sorted entry_sorted (args_sorted1 _) ?_
  unfold Builtin.«sorted»
  refine wpAny_bind (m := checkCount "sorted" 1 1 _) (wpAny_pure (wpAny_bind (collect_list hl (wpAny_bind (wpAny_newList ?_)))))
  generalize hG : (s.heap.push (seqObj "list" #[] 0)).update s.heap.objs.size (Obj.mapSeq (· ++ vs.toArray)) = G1
  have gsz : G1.objs.size = s.heap.objs.size + 1 := by rw [← hG, Heap.size_update, size_push']
  have gold : ∀ b o, s.heap.get? b = some o → G1.get? b = some o := fun b o e => by
    rw [← hG, Heap.get?_update_ne _ _ _ _ (Nat.ne_of_lt (Heap.lt_size e)), Heap.get?_push_ne _ _ _ (Nat.ne_of_lt (Heap.lt_size e))]
    exact e
  have inL : (G1.push (seqObj "list" vs.toArray 0)).get? G1.objs.size = some (seqObj "list" vs.toArray 0) := Heap.get?_push_size _ rfl
  have keep6 : ∀ b o, h₀.get? b = some o → (G.sortHeap6 (G1.push (seqObj "list" vs.toArray 0)) G1.objs.size vs).get? b = some o := fun b o e => by
    have e1 := gold b o (F.keep b o e)
    have hb : b < G1.objs.size := Heap.lt_size e1
    unfold G.sortHeap6
    refine Heap.get?_push_of_some _ (Heap.get?_push_of_some _ ?_)
    rw [Heap.get?_update_ne _ _ _ _ (Nat.ne_of_lt hb)]
    exact Heap.get?_push_of_some _ e1
  show wpAny _ _ _ _ _ { s with heap := G1.push (seqObj "list" vs.toArray 0) }
  refine wpAny_bind (wpAny_holding (wpAny_call_entry slot_list_sort ⟨_, inL, rfl⟩ entry_list_sort (ls_rows (g := h₀) (by show A.units + 1 + 1 + 64 < cLine; omega) inL keep6 hr hL fun ar hp hs => ⟨_, rfl, ?_⟩) (args_list_sort _)))
  refine wpAny_pure ⟨_, rfl, ?_⟩
  obtain ⟨p1, p2⟩ := sorted_rows hr hp hs
  obtain ⟨e, he⟩ := sortedAll_at s.heap vs (ar.map (·.2))
  have hall : sortedHeap (G1.push (seqObj "list" vs.toArray 0)) G1.objs.size vs (ar.map (·.2)) = sortedAll s.heap vs (ar.map (·.2)) := by
    unfold sortedAll
    rw [hG, gsz]
  show Q (.ref G1.objs.size) { s with heap := sortedHeap (G1.push (seqObj "list" vs.toArray 0)) G1.objs.size vs (ar.map (·.2)) }
  rw [hall, gsz]
  refine h (s.heap.objs.size + 1) (ar.map (·.2)).toList e _ (F.kept fun _ _ => sortedAll_old) ?_ (fun p hp => Nat.lt_succ_of_lt (Heap.lt_size (N p hp).1)) p1 ?_
  · exact N.kept_cons F (fun _ _ => sortedAll_old) (Nat.le_succ _) he
  · exact sorted_one _ _ ((p1.map _).trans (List.mergeSort_perm _ _).symm) p2 (merge_sorted _)
end
end My

/- several texts told, the rows handed in: the loop -/
namespace My
section
open PySem PySem.W PySem.Calls PyProof.Rows PySem.Spec
def TbJ (g : Heap) (D P : Addr) (vs : List Value) (cP : Nat) (i : Nat) (news : Led) : Prop :=
  ∃ (ws : List Value) (c : Nat), news = [(D, listOf (List.toArray ws) c), (P, listOf (List.toArray vs) cP)] ∧ IntsAre ws (txAns vs.length ((vs.take i).map (rk g)))
variable {prog : Program} {w : World} {A : Around} {E : Value → Shared → Prop} {s : Shared} {env : Env} {h₀ : Heap} {x : Str} {body : List Stmt} {Q : Flow → Shared → Prop}
theorem tb_loop {D P : Addr} {vs : List Value} {ws₀ : List Value} {cP cD : Nat} {m₀ : Str → Option Value} {news₀ : Led}
    (hh : A.handled = none) (F : Fr h₀ env.locals s.heap m₀) (N : News h₀ env.locals s.heap news₀) (hD : (D, listOf (List.toArray ws₀) cD) ∈ news₀) (hP : (P, listOf (List.toArray vs) cP) ∈ news₀)
    (hw : IntsAre ws₀ [(vs.length : Int)]) (hDP : @Ne Nat D P) (hr : ∀ v ∈ vs, ∃ r, RowAt h₀ v r) (h31 : ∀ v ∈ vs, (rk h₀ v).length ≤ 31) (h100 : vs.length ≤ 100)
    (turn : ∀ (a : Addr) (its : List Value) (ns : List Int) (ws : List Value) (c i : Nat) h tk I it, vs[i]? = some (.ref a) → h₀.IsList a its.toArray → IntsAre its ns → ns.length ≤ 31 → rk h₀ (.ref a) = ns →
      IntsAre ws (txAns vs.length ((vs.take i).map (rk h₀))) → (txAns vs.length ((vs.take i).map (rk h₀))).length ≤ 3201 →
      it.cls = .type "list_iterator" → (@Ne Nat D I) → (@Ne Nat P I) → (@Ne Nat P D) →
      Fr h₀ env.locals h (fun y => if y = x then some (.ref a) else m₀ y) → News h₀ env.locals h [(I, it), (D, listOf (List.toArray ws) c), (P, listOf (List.toArray vs) cP)] →
      wpAny (model prog w) A (execs body env) (LpPost h₀ env.locals x m₀ I it (TbJ h₀ D P vs cP (i + 1)) { s with heap := h, toks := tk } Q) E { s with heap := h, toks := tk })
    (done : ∀ (ws : List Value) (c : Nat) (u : Str → Option Value) h tk, IntsAre ws (txAns vs.length (vs.map (rk h₀))) → (txAns vs.length (vs.map (rk h₀))).length ≤ 3201 →
      Fr h₀ env.locals h (fun y => if y = x then u y else m₀ y) → News h₀ env.locals h [(D, listOf (List.toArray ws) c), (P, listOf (List.toArray vs) cP)] → Q .next { s with heap := h, toks := tk }) :
    wpAny (model prog w) A (pyIter (.ref P)) (fun it s₂ => LoopAtV prog w A h₀ env x body Q E it s₂) E s := by
  have N' : News h₀ env.locals s.heap [(D, listOf (List.toArray ws₀) cD), (P, listOf (List.toArray vs) cP)] := fun p hp => by
    rcases List.mem_cons.1 hp with rfl | hp
    · exact N _ hD
    · rcases List.mem_singleton.1 hp with rfl
      exact N _ hP
  refine lp_made (vs := vs) (nn := cP) (TbJ h₀ D P vs cP) hh F N' ?_ ⟨ws₀, cD, rfl, hw⟩ ?_ ?_
  · rintro i news ⟨ws, c, rfl, _⟩
    exact List.mem_cons_of_mem _ List.mem_cons_self
  · rintro i v news₁ h tk I it hv ⟨ws, c, rfl, hi⟩ hc hoff F₁ N₁
    have hm : v ∈ vs := List.mem_of_getElem? hv
    obtain ⟨r, hrow⟩ := hr v hm
    have hk := rk_of hrow
    have hl := h31 v hm
    obtain ⟨a, its, rfl, hla, hia⟩ := hrow
    have hlen : (txAns vs.length ((vs.take i).map (rk h₀))).length ≤ 3201 := by
      have := txAns_len vs.length ((vs.take i).map (rk h₀))
      rw [List.length_map, List.length_take] at this; omega
    exact turn a its r ws c i h tk I it hv hla hia (by rw [← hk]; exact hl) hk hi hlen hc (hoff _ List.mem_cons_self) (hoff _ (List.mem_cons_of_mem _ List.mem_cons_self)) (Ne.symm hDP) F₁ N₁
  · rintro u news₁ h tk ⟨ws, c, rfl, hi⟩ F₁ N₁
    rw [List.take_length] at hi
    have hlen := txAns_len vs.length (vs.map (rk h₀))
    rw [List.length_map] at hlen
    exact done ws c u h tk hi (by omega) F₁ N₁
theorem tb_end {h' : Heap} {L I D P a : Addr} {m₀ m' : Str → Option Value} {it : Obj} {s₁ : Shared} {tk cP c' : Nat} {all : Led} {vs : List Value} {ns : List Int} {i : Nat} {ws' : List Value}
    (F : Fr h₀ L h' m') (N : News h₀ L h' all) (hI : (I, it) ∈ all) (hD : (D, listOf (List.toArray ws') c') ∈ all) (hP : (P, listOf (List.toArray vs) cP) ∈ all)
    (hi : IntsAre ws' (txAns vs.length ((vs.take i).map (rk h₀)) ++ ([((List.take 31 ns).length : Int)] ++ List.take 31 ns)))
    (hDI : @Ne Nat D I) (hPI : @Ne Nat P I) (e : ∀ z, z ≠ x → m' z = m₀ z) (hv : vs[i]? = some (.ref a)) (hk : rk h₀ (.ref a) = ns) :
    LpEnd h₀ L x m₀ I it (TbJ h₀ D P vs cP (i + 1)) s₁ { s₁ with heap := h', toks := tk } := by
  refine LpEnd.intro [(D, listOf (List.toArray ws') c'), (P, listOf (List.toArray vs) cP)] F N hI ?_ ?_ e ⟨ws', c', rfl, ?_⟩
  · intro p hp
    rcases List.mem_cons.1 hp with rfl | hp
    · exact hD
    · rcases List.mem_singleton.1 hp with rfl
      exact hP
  · intro p hp
    rcases List.mem_cons.1 hp with rfl | hp
    · exact hDI
    · rcases List.mem_singleton.1 hp with rfl
      exact hPI
  · rw [List.take_add_one, hv, List.map_append]
    show IntsAre ws' (txAns vs.length ((vs.take i).map (rk h₀) ++ [rk h₀ (.ref a)]))
    rw [txAns_snoc, hk]
    exact hi
theorem sit_rows {g : Heap} : ∀ {vs : List Value} {rows : List (List Int)}, SitAll ObjKind.listI g vs rows → (∀ v ∈ vs, ∃ r, RowAt g v r) ∧ vs.map (rk g) = rows
  | _, _, .nil => ⟨fun _ h => (nomatch h), rfl⟩
  | _, _, .cons (a := r) (v := v) hd tl => by
    obtain ⟨h1, h2⟩ := sit_rows tl
    have hv : RowAt g v r := by
      obtain ⟨a, ws, e, hl, hi⟩ := hd
      exact ⟨a, ws, e, hl, hi⟩
    refine ⟨fun q hq => ?_, ?_⟩
    · rcases List.mem_cons.1 hq with rfl | hq
      · exact ⟨r, hv⟩
      · exact h1 q hq
    · rw [List.map_cons, h2, rk_of hv]
end
end My


namespace My
theorem w_bytes {l : List Int} (h : Codec.within (.list 0 31 (.int (Int.ofNat 0) (Int.ofNat 255))) l = true) : l.length ≤ 31 ∧ Bs l := by
  have h : (Codec.inNat 0 31 l.length && l.all (Codec.inInt 0 255)) = true := h
  have k := Codec.and_of h
  exact ⟨(Codec.inNat_iff.mp k.1).2, fun x hx => Codec.inInt_iff.mp (List.all_eq_true.mp k.2 x hx)⟩
theorem w_int {lo hi x : Int} (h : Codec.within (.int lo hi) x = true) : lo ≤ x ∧ x ≤ hi := Codec.inInt_iff.mp h
theorem fin {X Y : List Int} (h : X = Y) : WData.list (ofPys (X.map PyData.int)) = WData.list (Y.map WData.int) := by rw [os_ofPys_ints, h]
theorem fin1 {k : Int} {Y : List Int} (h : Y = [k]) : ofPy (PyData.list [PyData.int k]) = WData.list (Y.map WData.int) := by
  rw [h]
  exact os_list rfl
end My

theorem My.said : PySem.Challenge.rw_shorttextsdesk_s20_sort.wellSaid = true := by decide +kernel
theorem My.w_rows {l : List (List Int)} (h : Codec.within (.list 0 100 (.list 0 31 (.int (Int.ofNat 0) (Int.ofNat 255)))) l = true) : l.length ≤ 100 ∧ ∀ r ∈ l, r.length ≤ 31 ∧ My.Bs r := by
  have h : (Codec.inNat 0 100 l.length && l.all (Codec.within (.list 0 31 (.int (Int.ofNat 0) (Int.ofNat 255))))) = true := h
  have k := Codec.and_of h
  exact ⟨(Codec.inNat_iff.mp k.1).2, fun r hr => My.w_bytes (List.all_eq_true.mp k.2 r hr)⟩
theorem My.bnd {x0 : List (List Int)} (h : PySem.Challenge.rw_shorttextsdesk_s20_sort.pre [ofPy (.list (x0.map PyProof.Rows.listDI))] = true) : x0.length ≤ 100 ∧ ∀ r ∈ x0, r.length ≤ 31 ∧ My.Bs r := by
  obtain ⟨a, w, q, e⟩ := os_pre My.said h
  obtain ⟨y0, u⟩ := a
  have e0 := os_j_rows (List.cons.inj e).1
  subst e0
  exact My.w_rows (Codec.and_of w).1
theorem My.name {x0 : List (List Int)} (_ : PySem.Challenge.rw_shorttextsdesk_s20_sort.pre [ofPy (.list (x0.map PyProof.Rows.listDI))] = true) : ∃ rows : List (List Int), rows = x0 := ⟨_, rfl⟩
namespace My
theorem isl_up {h₀ g h : Heap} {L L' a : Addr} {m : Str → Option Value} {all : List (Addr × Obj)} {its : Array Value} (_ : PyProof.Rows.News g L' h all) (hl : h₀.IsList a its) (F : PyProof.Rows.Fr h₀ L g m) : g.IsList a its := hl.at fun o e => F.keep a o e
theorem perm_self {a b : List Value} (_ : a.Perm b) : a.length = a.length := rfl
theorem rows_31 {g : Heap} {vs vs' : List Value} {rows : List (List Int)} (hs : PyProof.Rows.SitAll PyProof.Rows.ObjKind.listI g vs rows) (hp : vs'.Perm vs) (hB : ∀ r ∈ rows, r.length ≤ 31 ∧ Bs r) : ∀ v ∈ vs', (rk g v).length ≤ 31 := fun v hv => by
  have e := (sit_rows hs).2
  have : rk g v ∈ rows := by rw [← e]; exact List.mem_map_of_mem (hp.mem_iff.1 hv)
  exact (hB _ this).1
theorem rows_in {g : Heap} {vs vs' : List Value} {rows : List (List Int)} (hs : PyProof.Rows.SitAll PyProof.Rows.ObjKind.listI g vs rows) (hp : vs'.Perm vs) : ∀ v ∈ vs', ∃ r, RowAt g v r := fun v hv => (sit_rows hs).1 v (hp.mem_iff.1 hv)
theorem rows_len {g : Heap} {vs vs' : List Value} {rows : List (List Int)} (hs : PyProof.Rows.SitAll PyProof.Rows.ObjKind.listI g vs rows) (hp : vs'.Perm vs) (hL : rows.length ≤ 100) : vs'.length ≤ 100 := by
  rw [hp.length_eq, hs.length]; exact hL
theorem rows_line {g : Heap} {vs : List Value} {rows : List (List Int)} (hs : PyProof.Rows.SitAll PyProof.Rows.ObjKind.listI g vs rows) (hL : rows.length ≤ 100) : vs.length ≤ sizeLine := by
  rw [hs.length, sizeLine_eq]; omega
theorem sort_end {g g2 : Heap} {vs vs' : List Value} {rows : List (List Int)} (hs2 : PyProof.Rows.SitAll PyProof.Rows.ObjKind.listI g2 vs rows) (hp : vs'.Perm vs) (hm : vs'.map (rk g) = (vs.map (rk g)).mergeSort (fun a b => !beforeZ b a)) (hs : PyProof.Rows.SitAll PyProof.Rows.ObjKind.listI g vs rows) (hB : ∀ r ∈ rows, r.length ≤ 31 ∧ Bs r) :
    txAns vs'.length (vs'.map (rk g2)) = PySv24.sort rows := by
  have e12 : vs.map (rk g2) = vs.map (rk g) := by rw [(sit_rows hs2).2, (sit_rows hs).2]
  have e : vs'.map (rk g2) = vs'.map (rk g) := List.map_congr_left fun v hv => List.map_inj_left.1 e12 v (hp.mem_iff.1 hv)
  rw [e]
  rw [sort_eq (fun r hr => (hB r hr).2.nn)]
  rw [(sit_rows hs).2] at hm
  have h : ∀ b ∈ vs'.map (rk g), b.length ≤ 31 := fun b hb => by
    rw [hm] at hb
    exact (hB b (List.mem_mergeSort.1 hb)).1
  have := txAns_all h
  rw [List.length_map] at this
  rw [this, hm]
end My

open PySem.W PyProof.Rows in
local macro_rules
  | `(tactic| walk_at "subscriptTail") => `(tactic| (k_here; (with_reducible show wpAny _ _ (subscriptTail _ _ (Value.ref _) (Value.int _ _)) _ _ _); k_dflt (refine My.sp_last (by k_asm) (by k_mem) (by rfl) ?_)))
local macro_rules
  | `(tactic| walk_at "LpPost") => `(tactic| refine My.lpPost_next ?_)

open PySem.W PyProof.Rows in
local macro_rules
  | `(tactic| walk_at "call builtin:list.extend") => `(tactic| (k_here; (with_reducible show wpAny _ _ (call (Value.builtin _) [Value.ref _, Value.ref _]) _ _ _); k_dflt (refine' My.ext_K ?F ?N ?b ?U ?i ?j ?ne ?z ?_; (case F => k_asm); (case N => k_asm); (case b => k_mem); (case U => k_upd); (case i => l_ints); (case j => l_ints); (case ne => exact Nat.succ_ne_zero _); (case z => first | size_fits | ke_room ); k_whole); intro h' F' N' I'; (try k_sweep)))

open PySem.W PyProof.Rows in
local macro_rules
  | `(tactic| walk_at "call builtin:sorted") => `(tactic| (k_here; (with_reducible show wpAny _ _ (call (Value.builtin _) [Value.ref _]) _ _ _); k_dflt (refine' My.srt_rows ?zu ?zF ?zN ?zl ?zr ?zs ?_; (case zu => first | ke_room | decide); (case zF => k_asm); (case zN => k_asm); (case zl => is_list); (case zr => exact (My.sit_rows (by assumption)).1); (case zs => exact My.rows_line (by assumption) (by assumption))); intro D' vs' c' h' F' N' l1 hp' hm'; (try k_lt l1); (try k_sweep)))
open PySem.W PyProof.Rows in
local macro_rules
  | `(tactic| walk_at "call builtin:len") => `(tactic| (k_here; (with_reducible show wpAny _ _ (call (Value.builtin "len") [Value.ref _]) _ _ _); k_dflt (refine' kst_len ?k1 ?k2 ?k3 ?k4 ?_; (case k1 => k_asm); (case k2 => k_mem); (case k3 => exact My.perm_self (by assumption)); (case k4 => ((have hz9 := My.rows_len (by assumption) (by assumption) (by assumption)); omega))); k_whole))
local macro_rules
  | `(tactic| walk_at "LpEnd") => `(tactic| ((rename PyProof.Rows.Fr _ _ _ _ => lF9); (rename PyProof.Rows.News _ _ _ _ => lN9); (with_unfolding_all exact My.tb_end (F := lF9) (N := lN9) (by k_mem) (by k_mem) (by k_mem) (by assumption) (by assumption) (by assumption) (by (intro z h1; simp [h1])) (by assumption) (by assumption))))

set_option maxRecDepth 100000 in
set_option maxHeartbeats 8000000 in
theorem PySem.Challenge.cw_shorttextsdesk_s20_sort_holds : PySem.Challenge.rw_shorttextsdesk_s20_sort.Holds := by
  k_with "pyIter ref" => ((with_reducible show wpAny _ _ (pyIter (Value.ref _)) (fun it s₂ => PyProof.Rows.LoopAtV _ _ _ _ _ _ _ _ _ it s₂) _ _); k_here; (rename PyProof.Rows.Fr _ _ _ _ => lF'); (rename PyProof.Rows.News _ _ _ _ => lN'); (rename ReadsAll _ _ _ _ => hRA9); (have hS9 := PyProof.Rows.readsAll_listsI hRA9); (with_unfolding_all refine' My.tb_loop (by rfl) lF' lN' (by k_mem) (by k_mem) (by l_ints) (by (refine neN ?_; omega)) (My.rows_in hS9 (by assumption)) (My.rows_31 hS9 (by assumption) hB0) (My.rows_len hS9 (by assumption) hL0) ?kturn ?kdone); (case' kturn => intro kAd kIts kNs kWs kC kI kH kTk kA kIt kGet kLst kInts kL31 kRk kWsI kLen kCls kDI kPI kPD kFr kNews); (case' kdone => intro kWs kC kU kH kTk kWsI kLen kFr kNews); (all_goals (try clear lF' lN')))
  k_with "subscriptTail Name Slice ref ref" => ((rename PyProof.Rows.News _ _ _ _ => lN7); (have kLst7 := My.isl_up lN7 kLst (by assumption)); clear kLst; walk_at "subscriptTail Name Slice ref ref")
  w_on; k_headS; (case hw => exact ⟨[.list []], by decide +kernel, by decide +kernel⟩)
  k_goS0
  (with_reducible rename OpenSpec.pre _ _ = true => hcP)
  obtain ⟨hL0, hB0⟩ := My.bnd hcP
  obtain ⟨rows, hn0⟩ := My.name hcP
  subst hn0
  (all_goals try k_fold); k_steps; (all_goals (try (w_end; sp_is; wrow_close))); (all_goals (try k_data))
  all_goals first | sp_left | w_report
  all_goals os_open My.said with a w q e
  all_goals obtain ⟨y0, u⟩ := a
  all_goals have e0 := os_j_rows (List.cons.inj e).1
  all_goals subst e0
  all_goals show _ = WData.list (List.map WData.int (PySv24.sort y0))
  all_goals exact My.fin (My.sort_end hS9 (by assumption) (by assumption) (by assumption) hB0)
#print axioms PySem.Challenge.cw_shorttextsdesk_s20_sort_holds
