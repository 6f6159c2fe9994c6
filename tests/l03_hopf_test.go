package tests

import (
	"fmt"
	"math/rand"
	"testing"

	"loop.example/g01230/impl"
)

func TestMaxOrder(t *testing.T) {
	if impl.MaxOrder != 60 {
		t.Errorf("MaxOrder is %d", impl.MaxOrder)
	}
}

// isUnitByHand reports whether the Unit is a unit, straight from the definition.
func isUnitByHand(a impl.Algebra) bool {
	for i := range a.Size {
		e := unitVector(i)
		if productByHand(a, a.Unit, e) != e || productByHand(a, e, a.Unit) != e {
			return false
		}
	}
	return true
}

// axiomsByHand tells for the number of each axiom whether a shaped h fulfils it, straight from the
// definitions.
func axiomsByHand(h impl.Hopf) [8]bool {
	a, c, p := algebraPart(h), coalgebraPart(h), h.Prime
	unit, identity := pairByHand(p, h.Counit, h.Unit), identityByHand(h.Size)
	held := [8]bool{
		1: isUnitByHand(a) && faultByHand(a) == nil,
		2: hasCounitByHand(c) && coFaultByHand(c) == nil,
		3: true,
		4: coproductByHand(c, h.Unit) == pairByHand(p, h.Unit, h.Unit),
		5: counitByHand(c, h.Unit) == 1,
		6: convolutionByHand(c, a, h.Antipode, identity) == unit,
		7: convolutionByHand(c, a, identity, h.Antipode) == unit,
	}
	for i := range h.Size {
		for j := range h.Size {
			product := h.Mul[i][j]
			if coproductByHand(c, product) != pairProductByHand(a, h.Com[i], h.Com[j]) {
				held[3] = false
			}
			if counitByHand(c, product) != int64(h.Counit[i])*int64(h.Counit[j])%p {
				held[5] = false
			}
		}
	}
	return held
}

// firstByHand returns the number of the first axiom that is not held, or 0.
func firstByHand(held [8]bool) int64 {
	for number := int64(1); number <= 7; number++ {
		if !held[number] {
			return number
		}
	}
	return 0
}

// checkAxioms holds AxiomThatFails and IsHopf against what is wanted for a shaped h.
func checkAxioms(t *testing.T, name string, h impl.Hopf, want int64) {
	t.Helper()
	if number, code := impl.AxiomThatFails(h); number != want || code != impl.ErrNone {
		t.Errorf("%s: the axiom that fails is %d, %d, not %d", name, number, code, want)
	}
	if got := impl.IsHopf(h); got != (want == 0) {
		t.Errorf("%s: IsHopf is %v", name, got)
	}
}

func TestAxiomsOfSamples(t *testing.T) {
	for _, s := range hopfSamples() {
		checkAxioms(t, s.name, s.hopf, 0)
		if number := firstByHand(axiomsByHand(s.hopf)); number != 0 {
			t.Errorf("%s: axiom %d fails by hand", s.name, number)
		}
	}
}

// TestAxiomsOneByOne has tables for each axiom, and holds them against the axioms that are meant
// to be the only ones that fail.
func TestAxiomsOneByOne(t *testing.T) {
	seen := map[int64]int{}
	for _, b := range brokenAxioms() {
		checkAxioms(t, b.name, b.hopf, b.axiom)
		held := axiomsByHand(b.hopf)
		for number := int64(1); number <= 7; number++ {
			fails := number == b.axiom || number >= 6 && b.axiom >= 4
			if b.name == "basis elements without products" {
				fails = number <= 2
			}
			if held[number] == fails {
				t.Errorf("%s: axiom %d by hand: %v", b.name, number, held[number])
			}
		}
		seen[b.axiom]++
	}
	for number := int64(1); number <= 6; number++ {
		if seen[number] == 0 {
			t.Errorf("no table fails axiom %d", number)
		}
	}
}

func TestAxiomsOfBrokenShapes(t *testing.T) {
	for _, b := range brokenShapes() {
		if impl.IsHopf(b.hopf) {
			t.Errorf("%s: IsHopf is true", b.name)
		}
		if number, code := impl.AxiomThatFails(b.hopf); number != 0 || code != impl.ErrInvalid {
			t.Errorf("%s: the axiom that fails is %d, %d", b.name, number, code)
		}
	}
}

// changed returns h with another number at one place of one of its parts.
func changed(source *rand.Rand, h impl.Hopf, part int) impl.Hopf {
	i, j, k := source.Int63n(h.Size), source.Int63n(h.Size), source.Int63n(h.Size)
	entries := [5]*byte{&h.Unit[i], &h.Mul[i][j][k], &h.Counit[i], &h.Com[i][j][k], &h.Antipode[i][j]}
	entry := entries[part]
	*entry = byte((int64(*entry) + 1 + source.Int63n(h.Prime-1)) % h.Prime)
	return h
}

func TestAxiomsOfChangedSamples(t *testing.T) {
	source := rand.New(rand.NewSource(5))
	seen := map[int64]int{}
	for _, s := range hopfSamples() {
		for part := range 5 {
			h := changed(source, s.hopf, part)
			want := firstByHand(axiomsByHand(h))
			checkAxioms(t, fmt.Sprint(s.name, ", changed in the part ", part), h, want)
			seen[want]++
		}
	}
	for _, number := range []int64{1, 2, 3, 6} {
		if seen[number] == 0 {
			t.Errorf("no changed table fails axiom %d: %v", number, seen)
		}
	}
}

// TestAxiomsOfSizeOne goes through all shaped tables of size 1.
func TestAxiomsOfSizeOne(t *testing.T) {
	for _, p := range []int64{2, 3} {
		seen := map[int64]int{}
		for _, v := range allVectors(p, 5) {
			h := impl.Hopf{Prime: p, Size: 1}
			h.Unit[0], h.Mul[0][0][0], h.Counit[0], h.Com[0][0][0], h.Antipode[0][0] = v[0], v[1], v[2], v[3], v[4]
			want := firstByHand(axiomsByHand(h))
			checkAxioms(t, fmt.Sprint(h), h, want)
			seen[want]++
		}
		// A Unit and a Counit that are not 0 tell the rest.
		if seen[0] != int(p-1) {
			t.Errorf("%d Hopf algebras of size 1 for %d", seen[0], p)
		}
	}
}

// allLinear returns all linear maps for p, with n vectors of size m as images, if n m is at most 8
// and there are at most 1000, and none otherwise.
func allLinear(p, n, m int64) []impl.Linear {
	if n*m > 8 {
		return nil
	}
	var list []impl.Linear
	for _, entries := range allVectors(p, n*m) {
		var f impl.Linear
		for i := range n {
			copy(f[i][:m], entries[i*m:])
		}
		list = append(list, f)
	}
	return list
}

// smallTables returns all algebras of size 2 and all coalgebras of size 2.
func smallTables(p int64) ([]impl.Algebra, []impl.Coalgebra) {
	var algebras []impl.Algebra
	for place := range power(p, 10) {
		a := impl.Algebra{Prime: p, Size: 2}
		for _, entry := range []*byte{&a.Unit[0], &a.Unit[1],
			&a.Mul[0][0][0], &a.Mul[0][0][1], &a.Mul[0][1][0], &a.Mul[0][1][1],
			&a.Mul[1][0][0], &a.Mul[1][0][1], &a.Mul[1][1][0], &a.Mul[1][1][1]} {
			*entry = byte(place % p)
			place /= p
		}
		if isUnitByHand(a) && faultByHand(a) == nil {
			algebras = append(algebras, a)
		}
	}
	var coalgebras []impl.Coalgebra
	for _, a := range algebras {
		coalgebras = append(coalgebras, dualByHand(a))
	}
	return algebras, coalgebras
}

// power returns p to the power k.
func power(p, k int64) int64 {
	result := int64(1)
	for range k {
		result *= p
	}
	return result
}

// TestAxiomsOfSizeTwo goes through all pairs of an algebra and a coalgebra of size 2.
func TestAxiomsOfSizeTwo(t *testing.T) {
	for _, p := range []int64{2, 3} {
		seen := map[int64]int{}
		algebras, coalgebras := smallTables(p)
		antipodes := allLinear(p, 2, 2)
		for _, a := range algebras {
			for _, c := range coalgebras {
				h := hopfOf(a, c, impl.Linear{})
				want := firstByHand(axiomsByHand(h))
				checkAxioms(t, fmt.Sprint(h), h, want)
				seen[want]++
				if want < 6 {
					if s, code := impl.FindAntipode(h); s != (impl.Linear{}) || code != impl.ErrInvalid {
						t.Errorf("%v: FindAntipode of no bialgebra: %v, %d", h, s, code)
					}
					continue
				}
				checkAllAntipodes(t, h, antipodes)
			}
		}
		for _, number := range []int64{3, 4, 5, 6} {
			if seen[number] == 0 {
				t.Errorf("no table for %d fails axiom %d: %v", p, number, seen)
			}
		}
	}
}

// checkAllAntipodes goes through all linear maps as Antipode of a bialgebra.
func checkAllAntipodes(t *testing.T, h impl.Hopf, antipodes []impl.Linear) {
	want, wantCode := impl.Linear{}, int64(impl.ErrNotFound)
	for _, s := range antipodes {
		h.Antipode = s
		held := axiomsByHand(h)
		if held[6] != held[7] {
			t.Errorf("%v: the axioms 6 and 7: %v, %v", h, held[6], held[7])
		}
		checkAxioms(t, fmt.Sprint(h), h, firstByHand(held))
		if held[6] {
			want, wantCode = s, impl.ErrNone
		}
	}
	for _, s := range antipodes[:9] {
		h.Antipode = s
		if got, code := impl.FindAntipode(h); got != want || code != wantCode {
			t.Errorf("%v: FindAntipode returns %v, %d, not %v", h, got, code, want)
		}
	}
}

func TestPartsOfHopf(t *testing.T) {
	for _, s := range hopfSamples() {
		if a, code := impl.AlgebraOf(s.hopf); a != algebraPart(s.hopf) || code != impl.ErrNone {
			t.Errorf("%s: AlgebraOf returns %v, %d", s.name, a, code)
		}
		if c, code := impl.CoalgebraOf(s.hopf); c != coalgebraPart(s.hopf) || code != impl.ErrNone {
			t.Errorf("%s: CoalgebraOf returns %v, %d", s.name, c, code)
		}
	}
}

func TestValuesOfVectors(t *testing.T) {
	for _, s := range hopfSamples() {
		h, c := s.hopf, coalgebraPart(s.hopf)
		list := someVectors(h.Prime, h.Size)
		for _, v := range list[:min(12, len(list))] {
			if got, code := impl.CoproductOf(h, v); got != coproductByHand(c, v) || code != impl.ErrNone {
				t.Errorf("%s: the coproduct of %v is %v, %d", s.name, v, got, code)
			}
			if got, code := impl.CounitOf(h, v); got != counitByHand(c, v) || code != impl.ErrNone {
				t.Errorf("%s: the Counit of %v is %d, %d", s.name, v, got, code)
			}
			if got, code := impl.AntipodeOf(h, v); got != imageByHand(h.Prime, h.Antipode, v) || code != impl.ErrNone {
				t.Errorf("%s: S of %v is %v, %d", s.name, v, got, code)
			}
		}
	}
}

func TestValuesChosen(t *testing.T) {
	w, v := skewHopf(31, 2, 0), impl.Vector{30, 2, 3, 4}
	if got, code := impl.CoproductOf(w, v); got != (impl.Linear{{30, 0, 0, 4}, {0, 2, 3}, {3}, {0, 4}}) || code != impl.ErrNone {
		t.Errorf("the coproduct: %v, %d", got, code)
	}
	if got, code := impl.CounitOf(w, v); got != 1 || code != impl.ErrNone {
		t.Errorf("the Counit: %d, %d", got, code)
	}
	if got, code := impl.AntipodeOf(w, v); got != (impl.Vector{30, 2, 4, 28}) || code != impl.ErrNone {
		t.Errorf("S: %v, %d", got, code)
	}
	full := impl.Vector{30, 30, 30, 30, 30, 30, 30, 30}
	if got, code := impl.CounitOf(groupHopf(cyclic(31, 8)), full); got != 23 || code != impl.ErrNone {
		t.Errorf("the Counit of the greatest entries: %d, %d", got, code)
	}
}

// TestFindAntipode holds that antipodes are found again, whatever the Antipode is.
func TestFindAntipode(t *testing.T) {
	source := rand.New(rand.NewSource(6))
	for _, s := range hopfSamples() {
		want := s.hopf.Antipode
		var random impl.Linear
		for i := range s.hopf.Size {
			random[i] = randomVector(source, s.hopf.Prime, s.hopf.Size)
		}
		for _, given := range []impl.Linear{want, {}, identityByHand(s.hopf.Size), random} {
			h := s.hopf
			h.Antipode = given
			if got, code := impl.FindAntipode(h); got != want || code != impl.ErrNone {
				t.Errorf("%s with %v: %v, %d, not %v", s.name, given, got, code, want)
			}
		}
	}
}

func TestFindAntipodeWithout(t *testing.T) {
	for _, s := range monoids() {
		if got, code := impl.FindAntipode(s.hopf); got != (impl.Linear{}) || code != impl.ErrNotFound {
			t.Errorf("%s: %v, %d", s.name, got, code)
		}
	}
}

func TestFindAntipodeInvalid(t *testing.T) {
	for _, b := range append(brokenShapes(), brokenAxioms()...) {
		got, code := impl.FindAntipode(b.hopf)
		if b.axiom < 6 && (got != impl.Linear{} || code != impl.ErrInvalid) {
			t.Errorf("%s: %v, %d", b.name, got, code)
		}
		if b.axiom >= 6 && code == impl.ErrInvalid {
			t.Errorf("%s: a bialgebra is invalid", b.name)
		}
	}
}

// orderByHand returns the least k for which S, taken k times, leads all to itself, up to 100.
func orderByHand(h impl.Hopf) int64 {
	images := identityByHand(h.Size)
	for k := int64(1); k <= 100; k++ {
		for i := range h.Size {
			images[i] = imageByHand(h.Prime, h.Antipode, images[i])
		}
		if images == identityByHand(h.Size) {
			return k
		}
	}
	return 0
}

// TestOrderOfAntipode has no Hopf algebra with a greater order than MaxOrder: S taken four times is
// made by group-like elements of h and of its dual, the orders of which divide the size n, so that
// the order of S divides 4 n, which is at most 32.
func TestOrderOfAntipode(t *testing.T) {
	seen := map[int64]int{}
	for _, s := range hopfSamples() {
		want := orderByHand(s.hopf)
		if got, code := impl.OrderOfAntipode(s.hopf); got != want || code != impl.ErrNone {
			t.Errorf("%s: %d, %d, not %d", s.name, got, code, want)
		}
		seen[want]++
	}
	if seen[1] == 0 || seen[2] == 0 || seen[4] == 0 {
		t.Errorf("the orders are %v", seen)
	}
}

func TestOrderOfAntipodeChosen(t *testing.T) {
	for _, c := range []struct {
		name string
		h    impl.Hopf
		want int64
	}{
		{"size 1 for 2", groupHopf(cyclic(2, 1)), 1},
		{"size 1 for 31", groupHopf(cyclic(31, 1)), 1},
		{"cyclic 2", groupHopf(cyclic(31, 2)), 1},
		{"klein", groupHopf(klein(3)), 1},
		{"the line for 2", lineHopf(2, 0), 1},
		{"the line for 7", lineHopf(7, 0), 2},
		{"cyclic 8 for 2", groupHopf(cyclic(2, 8)), 2},
		{"cyclic 3", groupHopf(cyclic(31, 3)), 2},
		{"functions on the dihedral group", dualHopfByHand(groupHopf(dihedral(31, 4))), 2},
		{"Sweedler's for 2", skewHopf(2, 2, 0), 2},
		{"Sweedler's for 31", skewHopf(31, 2, 0), 4},
		{"skew of size 8", skewHopf(5, 4, 1), 4},
		{"bent", bentHopf(), 4},
		{"double", doubleHopf(31), 4},
	} {
		if got, code := impl.OrderOfAntipode(c.h); got != c.want || code != impl.ErrNone {
			t.Errorf("%s: %d, %d, not %d", c.name, got, code, c.want)
		}
	}
}

// checkHopf reports what is none.
func checkHopf(t *testing.T, name string, h impl.Hopf, code int64) {
	t.Helper()
	if number, broken := impl.AxiomThatFails(h); number != 0 || broken != impl.ErrNone || !impl.IsHopf(h) || code != impl.ErrNone {
		t.Errorf("%s: no Hopf algebra, but axiom %d, %d fails; the code %d", name, number, broken, code)
	}
}

// TestDualsOfHopf holds the promises that duals are Hopf algebras, and that duals of duals are the
// Hopf algebras.
func TestDualsOfHopf(t *testing.T) {
	for _, s := range hopfSamples() {
		d, code := impl.DualHopf(s.hopf)
		checkHopf(t, "the dual of "+s.name, d, code)
		if want := dualHopfByHand(s.hopf); d != want {
			t.Errorf("%s: the dual is %v, not %v", s.name, d, want)
		}
		if again, code := impl.DualHopf(d); again != s.hopf || code != impl.ErrNone {
			t.Errorf("%s: the dual of the dual is %v, %d", s.name, again, code)
		}
	}
}

// composedByHand returns the linear map that applies g and then f.
func composedByHand(p int64, f, g impl.Linear) impl.Linear {
	for i := range g {
		g[i] = imageByHand(p, f, g[i])
	}
	return g
}

// checkTurned holds an opposite or a coopposite against what it has to be but for its Antipode,
// which is an inverse of that of h.
func checkTurned(t *testing.T, name string, turned, want impl.Hopf, code int64) {
	t.Helper()
	checkHopf(t, name, turned, code)
	identity := identityByHand(want.Size)
	if composedByHand(want.Prime, turned.Antipode, want.Antipode) != identity ||
		composedByHand(want.Prime, want.Antipode, turned.Antipode) != identity {
		t.Errorf("%s: the Antipode is %v, no inverse of %v", name, turned.Antipode, want.Antipode)
	}
	want.Antipode = turned.Antipode
	if turned != want {
		t.Errorf("%s: %v, not %v", name, turned, want)
	}
}

// TestOpposites holds the promise that opposites and coopposites are Hopf algebras.
func TestOpposites(t *testing.T) {
	for _, s := range hopfSamples() {
		opposite, coopposite := s.hopf, s.hopf
		for i := range 8 {
			coopposite.Com[i] = flipByHand(s.hopf.Com[i])
			for j := range 8 {
				opposite.Mul[i][j] = s.hopf.Mul[j][i]
			}
		}
		o, code := impl.OppositeHopf(s.hopf)
		checkTurned(t, "the opposite of "+s.name, o, opposite, code)
		if again, code := impl.OppositeHopf(o); again != s.hopf || code != impl.ErrNone {
			t.Errorf("%s: the opposite of the opposite is %v, %d", s.name, again, code)
		}
		c, code := impl.CoOppositeHopf(s.hopf)
		checkTurned(t, "the coopposite of "+s.name, c, coopposite, code)
		if again, code := impl.CoOppositeHopf(c); again != s.hopf || code != impl.ErrNone {
			t.Errorf("%s: the coopposite of the coopposite is %v, %d", s.name, again, code)
		}
	}
}

func TestOppositesChosen(t *testing.T) {
	w := skewHopf(5, 2, 0)
	inverse := impl.Linear{{1}, {0, 1}, {0, 0, 0, 1}, {0, 0, 4}}
	o, code := impl.OppositeHopf(w)
	if o.Mul[1][2] != w.Mul[2][1] || o.Mul[1][2] == w.Mul[1][2] || o.Com != w.Com || o.Antipode != inverse || code != impl.ErrNone {
		t.Errorf("the opposite of Sweedler's: %v, %d", o, code)
	}
	c, code := impl.CoOppositeHopf(w)
	if c.Com[2] != (impl.Linear{{0, 0, 1}, {}, {0, 1}}) || c.Mul != w.Mul || c.Antipode != inverse || code != impl.ErrNone {
		t.Errorf("the coopposite of Sweedler's: %v, %d", c, code)
	}
}

// TestAntipodesTurnProductsRound holds the promise that S(v w) is S(w) S(v).
func TestAntipodesTurnProductsRound(t *testing.T) {
	for _, s := range hopfSamples() {
		h := s.hopf
		a, _ := impl.AlgebraOf(h)
		list := someVectors(h.Prime, h.Size)
		for i, v := range list[:min(6, len(list))] {
			w := list[(5*i+3)%len(list)]
			product, _ := impl.MultiplyVectors(a, v, w)
			got, code := impl.AntipodeOf(h, product)
			sv, _ := impl.AntipodeOf(h, v)
			sw, _ := impl.AntipodeOf(h, w)
			if want, turned := impl.MultiplyVectors(a, sw, sv); got != want || code != impl.ErrNone || turned != impl.ErrNone {
				t.Errorf("%s: S of %v times %v is %v, %d, not %v, %d", s.name, v, w, got, code, want, turned)
			}
		}
	}
}

// tensorByHand returns the tensor product straight from the definition.
func tensorByHand(h, k impl.Hopf) impl.Hopf {
	n, m, p := h.Size, k.Size, h.Prime
	t := impl.Hopf{Prime: p, Size: n * m}
	times := func(x, y byte) byte { return byte(int64(x) * int64(y) % p) }
	for a := range n * m {
		t.Unit[a] = times(h.Unit[a/m], k.Unit[a%m])
		t.Counit[a] = times(h.Counit[a/m], k.Counit[a%m])
		for b := range n * m {
			t.Antipode[a][b] = times(h.Antipode[a/m][b/m], k.Antipode[a%m][b%m])
			for c := range n * m {
				t.Mul[a][b][c] = times(h.Mul[a/m][b/m][c/m], k.Mul[a%m][b%m][c%m])
				t.Com[a][b][c] = times(h.Com[a/m][b/m][c/m], k.Com[a%m][b%m][c%m])
			}
		}
	}
	return t
}

// TestTensorHopf holds the promise that tensor products are Hopf algebras, and goes through all
// pairs of samples.
func TestTensorHopf(t *testing.T) {
	samples := hopfSamples()
	seen := map[int64]int{}
	for _, s := range samples {
		for _, u := range samples {
			if s.hopf.Prime != u.hopf.Prime || s.hopf.Size*u.hopf.Size > impl.MaxSize {
				continue
			}
			got, code := impl.TensorHopf(s.hopf, u.hopf)
			name := s.name + " with " + u.name
			checkHopf(t, name, got, code)
			if want := tensorByHand(s.hopf, u.hopf); got != want {
				t.Errorf("%s: %v, not %v", name, got, want)
			}
			seen[got.Size]++
		}
	}
	if seen[1] == 0 || seen[6] == 0 || seen[impl.MaxSize] == 0 {
		t.Errorf("the sizes are %v", seen)
	}
}

func TestTensorHopfChosen(t *testing.T) {
	two, w := groupHopf(cyclic(5, 2)), skewHopf(5, 2, 0)
	if got, code := impl.TensorHopf(two, two); got != groupHopf(klein(5)) || code != impl.ErrNone {
		t.Errorf("cyclic 2 twice: %v, %d", got, code)
	}
	got, code := impl.TensorHopf(two, w)
	if got.Mul[6][5] != (impl.Vector{3: 4}) || got.Com[6] != (impl.Linear{5: {6: 1}, 6: {4: 1}}) || code != impl.ErrNone {
		t.Errorf("cyclic 2 with Sweedler's: %v, %d", got, code)
	}
	got, code = impl.TensorHopf(w, two)
	if got.Mul[4][2] != (impl.Vector{6: 4}) || got.Com[4] != (impl.Linear{2: {4: 1}, 4: {1}}) || code != impl.ErrNone {
		t.Errorf("Sweedler's with cyclic 2: %v, %d", got, code)
	}
	if order, code := impl.OrderOfAntipode(got); order != 4 || code != impl.ErrNone {
		t.Errorf("the order of its antipode: %d, %d", order, code)
	}
}

// TestTensorHopfLimit goes through all pairs of sizes, those with the product 8, which is MaxSize,
// and 9, which exceeds it by one, among them.
func TestTensorHopfLimit(t *testing.T) {
	for _, p := range []int64{2, 31} {
		for n := int64(1); n <= impl.MaxSize; n++ {
			for m := int64(1); m <= impl.MaxSize; m++ {
				h, k := groupHopf(cyclic(p, n)), dualHopfByHand(groupHopf(cyclic(p, m)))
				want, wantCode := impl.Hopf{}, int64(impl.ErrLimit)
				if n*m <= 8 {
					want, wantCode = tensorByHand(h, k), impl.ErrNone
				}
				if got, code := impl.TensorHopf(h, k); got != want || code != wantCode {
					t.Errorf("the sizes %d and %d for %d: %v, %d, not %d", n, m, p, got.Size, code, wantCode)
				}
			}
		}
	}
}

func TestErrorsOfTensorHopf(t *testing.T) {
	monoid := monoids()[0].hopf
	for _, c := range []struct {
		name string
		h, k impl.Hopf
		code int64
	}{
		{"other primes", groupHopf(cyclic(2, 2)), groupHopf(cyclic(31, 2)), impl.ErrRange},
		{"other primes, size 1", groupHopf(cyclic(3, 1)), groupHopf(cyclic(5, 1)), impl.ErrRange},
		{"other primes, too great", skewHopf(3, 2, 0), skewHopf(5, 4, 0), impl.ErrRange},
		{"too great", skewHopf(3, 2, 0), skewHopf(3, 2, 0), impl.ErrLimit},
		{"none, other primes", monoid, groupHopf(cyclic(31, 2)), impl.ErrInvalid},
		{"none, too great", monoid, groupHopf(cyclic(2, 8)), impl.ErrInvalid},
		{"none, other primes, too great", monoid, groupHopf(cyclic(31, 8)), impl.ErrInvalid},
	} {
		for range 2 {
			if got, code := impl.TensorHopf(c.h, c.k); got != (impl.Hopf{}) || code != c.code {
				t.Errorf("%s: %v, %d", c.name, got, code)
			}
			c.h, c.k = c.k, c.h
		}
	}
}

// isHopfMapByHand reports whether f is a map of Hopf algebras, straight from the definition.
func isHopfMapByHand(h, k impl.Hopf, f impl.Linear) bool {
	p, c := h.Prime, coalgebraPart(k)
	if imageByHand(p, f, h.Unit) != k.Unit {
		return false
	}
	for i := range h.Size {
		var image impl.Linear
		for a := range h.Size {
			for b := range h.Size {
				image = sumOfLinear(p, image, int64(h.Com[i][a][b]), pairByHand(p, f[a], f[b]))
			}
			if imageByHand(p, f, h.Mul[i][a]) != productByHand(algebraPart(k), f[i], f[a]) {
				return false
			}
		}
		if coproductByHand(c, f[i]) != image || counitByHand(c, f[i]) != int64(h.Counit[i]) {
			return false
		}
	}
	return true
}

// smallHopfSamples returns samples of few vectors, each of which is there once.
func smallHopfSamples() []hopfSample {
	var list []hopfSample
	found := map[impl.Hopf]bool{}
	for _, s := range hopfSamples() {
		if power(s.hopf.Prime, s.hopf.Size) <= 32 && !found[s.hopf] {
			found[s.hopf] = true
			list = append(list, s)
		}
	}
	return list
}

// TestIsHopfMapOfAllSmall goes through all linear maps between small Hopf algebras.
func TestIsHopfMapOfAllSmall(t *testing.T) {
	seen := map[bool]int{}
	samples := smallHopfSamples()
	for _, s := range samples {
		for _, u := range samples {
			h, k := s.hopf, u.hopf
			if h.Prime != k.Prime {
				continue
			}
			for _, f := range allLinear(h.Prime, h.Size, k.Size) {
				want := isHopfMapByHand(h, k, f)
				if got, code := impl.IsHopfMap(h, k, f); got != want || code != impl.ErrNone {
					t.Errorf("%s to %s, %v: %v, %d", s.name, u.name, f, got, code)
				}
				seen[want]++
			}
		}
	}
	if seen[true] == 0 || seen[false] == 0 {
		t.Errorf("maps of Hopf algebras and others: %v", seen)
	}
}

// TestIsHopfMapOfSamples has S, which leads to the opposite of the coopposite, and maps that any
// Hopf algebra has.
func TestIsHopfMapOfSamples(t *testing.T) {
	for _, s := range hopfSamples() {
		h := s.hopf
		one := groupHopf(cyclic(h.Prime, 1))
		coopposite, _ := impl.CoOppositeHopf(h)
		turned, code := impl.OppositeHopf(coopposite)
		if code != impl.ErrNone {
			t.Errorf("%s: the opposite of the coopposite has the code %d", s.name, code)
		}
		trivial := pairByHand(h.Prime, h.Counit, h.Unit)
		for _, c := range []struct {
			name string
			h, k impl.Hopf
			f    impl.Linear
			want bool
		}{
			{"S to the opposite of the coopposite", h, turned, h.Antipode, true},
			{"S", h, h, h.Antipode, isHopfMapByHand(h, h, h.Antipode)},
			{"the identity", h, h, identityByHand(h.Size), true},
			{"the Counit", h, one, pairByHand(h.Prime, h.Counit, unitVector(0)), true},
			{"the Unit", one, h, impl.Linear{h.Unit}, true},
			{"the Counit and the Unit", h, h, trivial, true},
			{"0", h, h, impl.Linear{}, false},
			{"two times the identity", h, h, sumOfLinear(h.Prime, identityByHand(h.Size), 1, identityByHand(h.Size)), false},
		} {
			if got, code := impl.IsHopfMap(c.h, c.k, c.f); got != c.want || code != impl.ErrNone {
				t.Errorf("%s, %s: %v, %d", s.name, c.name, got, code)
			}
		}
	}
}

func TestIsHopfMapChosen(t *testing.T) {
	w, two := skewHopf(31, 2, 0), groupHopf(cyclic(31, 2))
	eight, four := groupHopf(cyclic(31, 8)), groupHopf(cyclic(31, 4))
	places := func(list ...int64) impl.Linear {
		var f impl.Linear
		for i, place := range list {
			f[i] = unitVector(place)
		}
		return f
	}
	for _, c := range []struct {
		name string
		h, k impl.Hopf
		f    impl.Linear
		want bool
	}{
		{"g of order 2 into Sweedler's", two, w, places(0, 1), true},
		{"Sweedler's onto g", w, two, places(0, 1), true},
		{"x to 3 x", w, w, impl.Linear{{1}, {0, 1}, {0, 0, 3}, {0, 0, 0, 3}}, true},
		{"x to 3 x, but g x to g x", w, w, impl.Linear{{1}, {0, 1}, {0, 0, 3}, {0, 0, 0, 1}}, false},
		{"products and Units, but not coproducts", w, w, impl.Linear{{1}, {0, 1}, {0, 0, 0, 1}, {0, 0, 1}}, false},
		{"coproducts and Counits, but not products", four, four, places(0, 2, 1, 3), false},
		{"coproducts and products, but not the Unit", two, two, impl.Linear{}, false},
		{"the power 3", eight, eight, places(0, 3, 6, 1, 4, 7, 2, 5), true},
		{"order 8 onto order 4", eight, four, places(0, 1, 2, 3, 0, 1, 2, 3), true},
		{"order 4 into order 8", four, eight, places(0, 2, 4, 6), true},
		{"order 4 into order 8, the first ones", four, eight, places(0, 1, 2, 3), false},
		{"a sign of order 2", two, groupHopf(cyclic(31, 1)), impl.Linear{{1}, {30}}, false},
	} {
		if got, code := impl.IsHopfMap(c.h, c.k, c.f); got != c.want || code != impl.ErrNone {
			t.Errorf("%s: %v, %d", c.name, got, code)
		}
	}
}

func TestErrorsOfIsHopfMap(t *testing.T) {
	two, four := groupHopf(cyclic(5, 2)), groupHopf(cyclic(5, 4))
	none := two
	none.Antipode = impl.Linear{}
	trivial := impl.Linear{{1}, {1}}
	for _, c := range []struct {
		name string
		h, k impl.Hopf
		f    impl.Linear
		code int64
	}{
		{"an entry 5", two, four, impl.Linear{{1}, {0, 0, 0, 5}}, impl.ErrInvalid},
		{"an entry 6 for 1", two, four, impl.Linear{{6}, {1}}, impl.ErrInvalid},
		{"an entry too many", two, four, impl.Linear{{1}, {1, 0, 0, 0, 1}}, impl.ErrInvalid},
		{"an entry too many for k alone", four, two, impl.Linear{{1}, {1, 0, 1}}, impl.ErrInvalid},
		{"an image too many", four, two, impl.Linear{4: {1}}, impl.ErrInvalid},
		{"an image too many for h alone", two, four, impl.Linear{{1}, {1}, {1}}, impl.ErrInvalid},
		{"the last image", four, two, impl.Linear{7: {1}}, impl.ErrInvalid},
		{"h is none", none, two, trivial, impl.ErrInvalid},
		{"k is none", two, none, trivial, impl.ErrInvalid},
		{"h is none, other primes", none, groupHopf(cyclic(7, 2)), trivial, impl.ErrInvalid},
		{"k is none, other primes", groupHopf(cyclic(7, 2)), none, trivial, impl.ErrInvalid},
		{"other primes", two, groupHopf(cyclic(7, 2)), trivial, impl.ErrRange},
		{"other primes, an entry too great for that of h", two, groupHopf(cyclic(7, 2)), impl.Linear{{6}}, impl.ErrRange},
		{"other primes, an entry too great for that of k", two, groupHopf(cyclic(3, 2)), impl.Linear{{4}}, impl.ErrInvalid},
		{"other primes, an image too many", two, groupHopf(cyclic(3, 2)), impl.Linear{2: {1}}, impl.ErrInvalid},
		{"2 and 31", groupHopf(cyclic(2, 2)), groupHopf(cyclic(31, 2)), trivial, impl.ErrRange},
	} {
		if got, code := impl.IsHopfMap(c.h, c.k, c.f); got || code != c.code {
			t.Errorf("%s: %v, %d, not %d", c.name, got, code, c.code)
		}
	}
}

// checkInvalidHopf calls all functions of a Hopf algebra that is none.
func checkInvalidHopf(t *testing.T, name string, h impl.Hopf) {
	t.Helper()
	check := func(function string, zero bool, code int64) {
		t.Helper()
		if !zero || code != impl.ErrInvalid {
			t.Errorf("%s: %s returns the code %d, its results are zero values: %v", name, function, code, zero)
		}
	}
	good := groupHopf(cyclic(3, 1))
	a, code := impl.AlgebraOf(h)
	check("AlgebraOf", a == impl.Algebra{}, code)
	c, code := impl.CoalgebraOf(h)
	check("CoalgebraOf", c == impl.Coalgebra{}, code)
	order, code := impl.OrderOfAntipode(h)
	check("OrderOfAntipode", order == 0, code)
	result, code := impl.DualHopf(h)
	check("DualHopf", result == impl.Hopf{}, code)
	result, code = impl.OppositeHopf(h)
	check("OppositeHopf", result == impl.Hopf{}, code)
	result, code = impl.CoOppositeHopf(h)
	check("CoOppositeHopf", result == impl.Hopf{}, code)
	result, code = impl.TensorHopf(h, good)
	check("TensorHopf with it first", result == impl.Hopf{}, code)
	result, code = impl.TensorHopf(good, h)
	check("TensorHopf with it behind", result == impl.Hopf{}, code)
	result, code = impl.TensorHopf(h, h)
	check("TensorHopf with it twice", result == impl.Hopf{}, code)
	for _, f := range []impl.Linear{{}, {{1}}} {
		yes, code := impl.IsHopfMap(h, good, f)
		check("IsHopfMap from it", !yes, code)
		yes, code = impl.IsHopfMap(good, h, f)
		check("IsHopfMap to it", !yes, code)
	}
	checkInvalidVector(t, name, h, impl.Vector{})
	checkInvalidVector(t, name, h, impl.Vector{1})
}

// checkInvalidVector calls all functions of a Hopf algebra and a vector, one of which is none.
func checkInvalidVector(t *testing.T, name string, h impl.Hopf, v impl.Vector) {
	t.Helper()
	if m, code := impl.CoproductOf(h, v); m != (impl.Linear{}) || code != impl.ErrInvalid {
		t.Errorf("%s: CoproductOf %v returns %v, %d", name, v, m, code)
	}
	if x, code := impl.CounitOf(h, v); x != 0 || code != impl.ErrInvalid {
		t.Errorf("%s: CounitOf %v returns %d, %d", name, v, x, code)
	}
	if w, code := impl.AntipodeOf(h, v); w != (impl.Vector{}) || code != impl.ErrInvalid {
		t.Errorf("%s: AntipodeOf %v returns %v, %d", name, v, w, code)
	}
}

func TestInvalidHopf(t *testing.T) {
	for _, b := range append(brokenShapes(), brokenAxioms()...) {
		checkInvalidHopf(t, b.name, b.hopf)
	}
}

func TestInvalidVectorsOfHopf(t *testing.T) {
	for _, v := range []impl.Vector{{3}, {4}, {255}, {0, 0, 0, 3}, {0, 0, 0, 0, 1}, {7: 1}} {
		checkInvalidVector(t, "Sweedler's for 3", skewHopf(3, 2, 0), v)
	}
	for _, v := range []impl.Vector{{31}, {7: 31}, {7: 255}} {
		checkInvalidVector(t, "cyclic 8 for 31", groupHopf(cyclic(31, 8)), v)
	}
	for _, v := range []impl.Vector{{2}, {0, 1}, {7: 1}} {
		checkInvalidVector(t, "size 1 for 2", groupHopf(cyclic(2, 1)), v)
	}
}
