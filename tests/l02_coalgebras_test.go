package tests

import (
	"fmt"
	"math/rand"
	"slices"
	"strings"
	"testing"

	"loop.example/g01230/impl"
)

func TestMaxTried(t *testing.T) {
	if impl.MaxTried != 5000 {
		t.Errorf("MaxTried is %d", impl.MaxTried)
	}
}

// coFaultByHand returns the first fault straight from the definition.
func coFaultByHand(c impl.Coalgebra) []int64 {
	n := c.Size
	for place := range n * n * n * n {
		i, j, k, l := place/n/n/n, place/n/n%n, place/n%n, place%n
		first, second := 0, 0
		for a := range n {
			first += int(c.Com[i][a][l]) * int(c.Com[a][j][k])
			second += int(c.Com[i][j][a]) * int(c.Com[a][k][l])
		}
		if (first-second)%int(c.Prime) != 0 {
			return []int64{i, j, k, l}
		}
	}
	return nil
}

// hasCounitByHand reports whether the Counit is a counit, straight from the definition.
func hasCounitByHand(c impl.Coalgebra) bool {
	for i := range c.Size {
		var left, right impl.Vector
		for j := range c.Size {
			for k := range c.Size {
				x := int64(c.Com[i][j][k])
				left = sumByHand(c.Prime, left, x*int64(c.Counit[j]), unitVector(k))
				right = sumByHand(c.Prime, right, x*int64(c.Counit[k]), unitVector(j))
			}
		}
		if left != unitVector(i) || right != unitVector(i) {
			return false
		}
	}
	return true
}

func TestIsCoalgebra(t *testing.T) {
	for _, s := range cosamples() {
		if !impl.IsCoalgebra(s.coalgebra) {
			t.Errorf("%s: not a coalgebra", s.name)
		}
	}
	for _, s := range brokenCoalgebras() {
		if impl.IsCoalgebra(s.coalgebra) {
			t.Errorf("%s: a coalgebra", s.name)
		}
	}
}

func TestIsCoalgebraOfAllSmall(t *testing.T) {
	count := 0
	for _, counit := range allVectors(2, 2) {
		for number := range 256 {
			c := impl.Coalgebra{Prime: 2, Size: 2, Counit: counit}
			for bit := range 8 {
				c.Com[bit/4][bit/2%2][bit%2] = byte(number >> bit & 1)
			}
			want := hasCounitByHand(c) && coFaultByHand(c) == nil
			if got := impl.IsCoalgebra(c); got != want {
				t.Errorf("IsCoalgebra(%v) = %v", c, got)
			}
			if want {
				count++
			}
		}
	}
	if count == 0 {
		t.Errorf("no coalgebra is among those of size 2")
	}
}

func TestFirstCoFault(t *testing.T) {
	source := rand.New(rand.NewSource(3))
	for _, s := range cosamples() {
		if fault, code := impl.FirstCoFault(s.coalgebra); len(fault) != 0 || code != impl.ErrNotFound {
			t.Errorf("%s: %v, %d", s.name, fault, code)
		}
		changed := s.coalgebra
		i, j := source.Int63n(changed.Size), source.Int63n(changed.Size)
		changed.Com[i][j] = randomVector(source, changed.Prime, changed.Size)
		want, wantCode := coFaultByHand(changed), int64(impl.ErrNone)
		if want == nil {
			wantCode = impl.ErrNotFound
		}
		if fault, code := impl.FirstCoFault(changed); !slices.Equal(fault, want) || code != wantCode {
			t.Errorf("%s, changed at %d, %d: %v, %d, not %v", s.name, i, j, fault, code, want)
		}
		if got := impl.IsCoalgebra(changed); got != (want == nil && hasCounitByHand(changed)) {
			t.Errorf("%s, changed at %d, %d: IsCoalgebra is %v", s.name, i, j, got)
		}
	}
}

func TestFirstCoFaultOfBroken(t *testing.T) {
	for _, s := range brokenCoalgebras() {
		want := int64(impl.ErrInvalid)
		switch {
		case s.name == "axiom of associativity":
			want = impl.ErrNone
		case strings.HasPrefix(s.name, "axiom"):
			want = impl.ErrNotFound
		}
		fault, code := impl.FirstCoFault(s.coalgebra)
		if code != want || (len(fault) != 0) != (want == impl.ErrNone) {
			t.Errorf("%s: %v, %d, not %d", s.name, fault, code, want)
		}
	}
}

// TestFirstCoFaultChosen has coproducts with one fault. The Counit does not matter there.
func TestFirstCoFaultChosen(t *testing.T) {
	var one, other, greatI, greatJKL impl.Table
	one[0][1][0] = 1
	other[0][0][1] = 1
	greatI[5][6][6], greatI[7][5][6] = 1, 1
	greatJKL[5][7][7], greatJKL[6][5][7] = 1, 1
	for _, c := range []struct {
		n    int64
		com  impl.Table
		want []int64
	}{
		{2, one, []int64{0, 1, 1, 0}},
		{2, other, []int64{0, 0, 1, 1}},
		{8, greatI, []int64{7, 6, 6, 6}},
		{8, greatJKL, []int64{6, 7, 7, 7}},
	} {
		for _, p := range []int64{2, 31} {
			fault, code := impl.FirstCoFault(impl.Coalgebra{Prime: p, Size: c.n, Com: c.com})
			if !slices.Equal(fault, c.want) || code != impl.ErrNone {
				t.Errorf("%v, %d, not %v", fault, code, c.want)
			}
		}
	}
}

func TestCoproductIn(t *testing.T) {
	for _, s := range cosamples() {
		for _, v := range someVectors(s.coalgebra.Prime, s.coalgebra.Size) {
			got, code := impl.CoproductIn(s.coalgebra, v)
			if want := coproductByHand(s.coalgebra, v); got != want || code != impl.ErrNone {
				t.Errorf("%s: the coproduct of %v is %v, %d, not %v", s.name, v, got, code, want)
			}
		}
	}
	got, code := impl.CoproductIn(sweedlerCoalgebra(31), impl.Vector{30, 2, 3, 4})
	if want := (impl.Linear{{30, 0, 0, 4}, {0, 2, 3}, {3}, {0, 4}}); got != want || code != impl.ErrNone {
		t.Errorf("a coproduct of Sweedler's: %v, %d, not %v", got, code, want)
	}
}

func TestCounitIn(t *testing.T) {
	for _, s := range cosamples() {
		for _, v := range someVectors(s.coalgebra.Prime, s.coalgebra.Size) {
			got, code := impl.CounitIn(s.coalgebra, v)
			if want := counitByHand(s.coalgebra, v); got != want || code != impl.ErrNone {
				t.Errorf("%s: the Counit of %v is %d, %d, not %d", s.name, v, got, code, want)
			}
		}
	}
	full := impl.Vector{30, 30, 30, 30, 30, 30, 30, 30}
	if got, code := impl.CounitIn(pointsCoalgebra(31, 8), full); got != 23 || code != impl.ErrNone {
		t.Errorf("the greatest entries: %d, %d", got, code)
	}
}

// TestDualsOfDuals holds the promise that duals of duals are the coalgebras, and the algebras.
func TestDualsOfDuals(t *testing.T) {
	for _, s := range samples() {
		c, code := impl.DualCoalgebra(s.algebra)
		if c != dualByHand(s.algebra) || !impl.IsCoalgebra(c) || code != impl.ErrNone {
			t.Errorf("%s: the dual is %v, %d", s.name, c, code)
		}
		if a, code := impl.DualAlgebra(c); a != s.algebra || code != impl.ErrNone {
			t.Errorf("%s: the dual of the dual is %v, %d", s.name, a, code)
		}
	}
	for _, s := range cosamples() {
		a, code := impl.DualAlgebra(s.coalgebra)
		if dualByHand(a) != s.coalgebra || !impl.IsAlgebra(a) || code != impl.ErrNone {
			t.Errorf("%s: the dual is %v, %d", s.name, a, code)
		}
		if c, code := impl.DualCoalgebra(a); c != s.coalgebra || code != impl.ErrNone {
			t.Errorf("%s: the dual of the dual is %v, %d", s.name, c, code)
		}
	}
}

func TestDualsChosen(t *testing.T) {
	a, code := impl.DualAlgebra(sweedlerCoalgebra(5))
	want := impl.Algebra{Prime: 5, Size: 4, Unit: impl.Vector{1, 1}}
	want.Mul[0][0], want.Mul[1][1] = impl.Vector{1}, impl.Vector{0, 1}
	want.Mul[1][2], want.Mul[2][0] = impl.Vector{0, 0, 1}, impl.Vector{0, 0, 1}
	want.Mul[0][3], want.Mul[3][1] = impl.Vector{0, 0, 0, 1}, impl.Vector{0, 0, 0, 1}
	if a != want || code != impl.ErrNone {
		t.Errorf("the dual of Sweedler's: %v, %d", a, code)
	}
	c, code := impl.DualCoalgebra(truncated(2, 2))
	wanted := impl.Coalgebra{Prime: 2, Size: 2, Counit: impl.Vector{1}}
	wanted.Com[0][0][0], wanted.Com[1][0][1], wanted.Com[1][1][0] = 1, 1, 1
	if c != wanted || code != impl.ErrNone {
		t.Errorf("the dual of the powers of x: %v, %d", c, code)
	}
}

// TestDualsOfCommutativeAlgebras holds the promise that commutative algebras have cocommutative
// duals, and that others have others.
func TestDualsOfCommutativeAlgebras(t *testing.T) {
	seen := map[bool]int{}
	for _, s := range samples() {
		same, _ := impl.IsCommutative(s.algebra)
		dual, _ := impl.DualCoalgebra(s.algebra)
		got, code := impl.IsCocommutative(dual)
		if got != same || code != impl.ErrNone {
			t.Errorf("%s: commutative: %v, its dual cocommutative: %v, %d", s.name, same, got, code)
		}
		seen[same]++
	}
	if seen[true] == 0 || seen[false] == 0 {
		t.Errorf("commutative algebras and others: %v", seen)
	}
}

// isCocommutativeByHand looks through all entries.
func isCocommutativeByHand(c impl.Coalgebra) bool {
	for i := range 8 {
		for j := range 8 {
			for k := range 8 {
				if c.Com[i][j][k] != c.Com[i][k][j] {
					return false
				}
			}
		}
	}
	return true
}

func TestIsCocommutative(t *testing.T) {
	for _, s := range cosamples() {
		if got, code := impl.IsCocommutative(s.coalgebra); got != isCocommutativeByHand(s.coalgebra) || code != impl.ErrNone {
			t.Errorf("%s: %v, %d", s.name, got, code)
		}
	}
	for _, c := range []struct {
		name string
		c    impl.Coalgebra
		want bool
	}{
		{"points", pointsCoalgebra(31, 8), true},
		{"circle", circleCoalgebra(31), true},
		{"Sweedler's", sweedlerCoalgebra(31), false},
		{"the dual of matrices", dualByHand(matrices(2)), false},
		{"the dual of dihedral", dualByHand(dihedral(2, 4)), false},
	} {
		if got, code := impl.IsCocommutative(c.c); got != c.want || code != impl.ErrNone {
			t.Errorf("%s: %v, %d", c.name, got, code)
		}
	}
}

// randomMap returns the next map from c to a.
func randomMap(source *rand.Rand, c impl.Coalgebra, a impl.Algebra) impl.Linear {
	var f impl.Linear
	for i := range c.Size {
		f[i] = randomVector(source, a.Prime, a.Size)
	}
	return f
}

// convolutionByHand returns the convolution straight from the definition.
func convolutionByHand(c impl.Coalgebra, a impl.Algebra, f, g impl.Linear) impl.Linear {
	var sum impl.Linear
	for j := range c.Size {
		for k := range c.Size {
			product := productByHand(a, f[j], g[k])
			for i := range c.Size {
				sum[i] = sumByHand(c.Prime, sum[i], int64(c.Com[i][j][k]), product)
			}
		}
	}
	return sum
}

// targets returns algebras of several sizes for a prime.
func targets(p int64) []sample {
	return []sample{
		{"cyclic 1", cyclic(p, 1)},
		{"triangular", triangular(p)},
		{"slanted matrices", slanted(matrices(p))},
		{"dihedral 4", dihedral(p, 4)},
	}
}

// TestConvolutions holds convolutions against the definition and the promise that they are
// associative, with the unit map as unit.
func TestConvolutions(t *testing.T) {
	source := rand.New(rand.NewSource(4))
	for _, s := range cosamples() {
		for _, u := range targets(s.coalgebra.Prime) {
			c, a := s.coalgebra, u.algebra
			f, g, h := randomMap(source, c, a), randomMap(source, c, a), randomMap(source, c, a)
			convolve := func(f, g impl.Linear) impl.Linear {
				got, code := impl.ConvolveMaps(c, a, f, g)
				if code != impl.ErrNone {
					t.Errorf("%s to %s: ConvolveMaps has the code %d", s.name, u.name, code)
				}
				return got
			}
			if got, want := convolve(f, g), convolutionByHand(c, a, f, g); got != want {
				t.Errorf("%s to %s: the convolution of %v and %v is %v, not %v", s.name, u.name, f, g, got, want)
			}
			if convolve(convolve(f, g), h) != convolve(f, convolve(g, h)) {
				t.Errorf("%s to %s: the convolution of %v, %v and %v is not associative", s.name, u.name, f, g, h)
			}
			unit, code := impl.UnitMap(c, a)
			if code != impl.ErrNone || convolve(unit, f) != f || convolve(f, unit) != f {
				t.Errorf("%s to %s: the unit map %v, %d, is no unit for %v", s.name, u.name, unit, code, f)
			}
		}
	}
}

func TestUnitMap(t *testing.T) {
	for _, s := range cosamples() {
		for _, u := range targets(s.coalgebra.Prime) {
			got, code := impl.UnitMap(s.coalgebra, u.algebra)
			want := pairByHand(s.coalgebra.Prime, s.coalgebra.Counit, u.algebra.Unit)
			if got != want || code != impl.ErrNone {
				t.Errorf("%s to %s: %v, %d, not %v", s.name, u.name, got, code, want)
			}
		}
	}
}

func TestConvolveMapsChosen(t *testing.T) {
	// A map from points to an algebra is convolved point by point.
	f, g := impl.Linear{{1, 2, 3}, {4, 4, 4}}, impl.Linear{{0, 1}, {1, 0, 1}}
	got, code := impl.ConvolveMaps(pointsCoalgebra(5, 2), cyclic(5, 3), f, g)
	if want := (impl.Linear{{3, 1, 2}, {3, 3, 3}}); got != want || code != impl.ErrNone {
		t.Errorf("from points: %v, %d, not %v", got, code, want)
	}
	// In Sweedler's, x leads to f(g) g(x) + f(x) g(1).
	f, g = impl.Linear{{2}, {3}, {5}, {7}}, impl.Linear{{11}, {13}, {17}, {19}}
	got, code = impl.ConvolveMaps(sweedlerCoalgebra(31), cyclic(31, 1), f, g)
	if want := (impl.Linear{{22}, {8}, {13}, {5}}); got != want || code != impl.ErrNone {
		t.Errorf("from Sweedler's: %v, %d, not %v", got, code, want)
	}
	var full impl.Linear
	for i := range full {
		full[i] = impl.Vector{30, 30, 30, 30, 30, 30, 30, 30}
	}
	got, code = impl.ConvolveMaps(dualByHand(cyclic(31, 8)), cyclic(31, 8), full, full)
	if want := convolutionByHand(dualByHand(cyclic(31, 8)), cyclic(31, 8), full, full); got != want || code != impl.ErrNone {
		t.Errorf("the greatest entries: %v, %d, not %v", got, code, want)
	}
}

func TestErrorsOfMaps(t *testing.T) {
	broken, coBroken := cyclic(5, 2), pointsCoalgebra(5, 3)
	broken.Unit, coBroken.Counit = impl.Vector{}, impl.Vector{}
	good := impl.Linear{{4, 4}, {4, 4}, {4, 4}}
	for _, c := range []struct {
		name string
		c    impl.Coalgebra
		a    impl.Algebra
		f    impl.Linear
		code int64
	}{
		{"a map", pointsCoalgebra(5, 3), cyclic(5, 2), good, impl.ErrNone},
		{"an entry 5", pointsCoalgebra(5, 3), cyclic(5, 2), impl.Linear{{}, {}, {0, 5}}, impl.ErrInvalid},
		{"an entry too many", pointsCoalgebra(5, 3), cyclic(5, 2), impl.Linear{{0, 0, 1}}, impl.ErrInvalid},
		{"an entry too many for the Size of c alone", pointsCoalgebra(5, 3), cyclic(5, 4), impl.Linear{{0, 0, 0, 1}}, impl.ErrNone},
		{"an image too many", pointsCoalgebra(5, 3), cyclic(5, 2), impl.Linear{3: {1}}, impl.ErrInvalid},
		{"an image too many for the Size of c alone", pointsCoalgebra(5, 3), cyclic(5, 4), impl.Linear{3: {1}}, impl.ErrInvalid},
		{"the last image too many", pointsCoalgebra(5, 7), cyclic(5, 8), impl.Linear{7: {1}}, impl.ErrInvalid},
		{"the last image of 8", pointsCoalgebra(5, 8), cyclic(5, 1), impl.Linear{7: {4}}, impl.ErrNone},
		{"other Primes", pointsCoalgebra(3, 3), cyclic(5, 2), good, impl.ErrRange},
		{"other Primes, and no map for that of c", pointsCoalgebra(7, 3), cyclic(5, 2), impl.Linear{{6}}, impl.ErrInvalid},
		{"other Primes, and no map", pointsCoalgebra(3, 3), cyclic(5, 2), impl.Linear{{5}}, impl.ErrInvalid},
		{"no coalgebra", coBroken, cyclic(5, 2), good, impl.ErrInvalid},
		{"no algebra", pointsCoalgebra(5, 3), broken, good, impl.ErrInvalid},
		{"no coalgebra, other Primes", coBroken, cyclic(7, 2), good, impl.ErrInvalid},
		{"no algebra, other Primes", pointsCoalgebra(7, 3), broken, good, impl.ErrInvalid},
	} {
		zero := impl.Linear{}
		if got, code := impl.ConvolveMaps(c.c, c.a, c.f, zero); got != zero || code != c.code {
			t.Errorf("%s as the first one: %v, %d", c.name, got, code)
		}
		if got, code := impl.ConvolveMaps(c.c, c.a, zero, c.f); got != zero || code != c.code {
			t.Errorf("%s as the second one: %v, %d", c.name, got, code)
		}
	}
}

// isGroupLikeByHand reports whether v is group-like, straight from the definition.
func isGroupLikeByHand(c impl.Coalgebra, v impl.Vector) bool {
	return counitByHand(c, v) == 1 && coproductByHand(c, v) == pairByHand(c.Prime, v, v)
}

func TestIsGroupLike(t *testing.T) {
	for _, s := range cosamples() {
		for _, v := range someVectors(s.coalgebra.Prime, s.coalgebra.Size) {
			if got, code := impl.IsGroupLike(s.coalgebra, v); got != isGroupLikeByHand(s.coalgebra, v) || code != impl.ErrNone {
				t.Errorf("%s: %v is group-like: %v, %d", s.name, v, got, code)
			}
		}
	}
	// The dual of the group algebra of 5 elements has the powers of 2 as a vector: 2 has the order 5
	// modulo 31.
	if got, code := impl.IsGroupLike(dualByHand(cyclic(31, 5)), impl.Vector{1, 2, 4, 8, 16}); !got || code != impl.ErrNone {
		t.Errorf("the powers of 2: %v, %d", got, code)
	}
	// The vector of zeros fulfils all but the Counit.
	if got, code := impl.IsGroupLike(pointsCoalgebra(2, 1), impl.Vector{}); got || code != impl.ErrNone {
		t.Errorf("0 is group-like: %v, %d", got, code)
	}
}

func TestGroupLikes(t *testing.T) {
	for _, s := range cosamples() {
		c := s.coalgebra
		all := allVectors(c.Prime, c.Size)
		if len(all) == 0 {
			continue
		}
		var want []impl.Vector
		for _, v := range all {
			if isGroupLikeByHand(c, v) {
				want = append(want, v)
			}
		}
		if got, code := impl.GroupLikes(c); !slices.Equal(got, want) || code != impl.ErrNone {
			t.Errorf("%s: %v, %d, not %v", s.name, got, code, want)
		}
	}
}

// TestGroupLikesAreIndependent holds the promise that group-like vectors are independent.
func TestGroupLikesAreIndependent(t *testing.T) {
	for _, s := range cosamples() {
		list, code := impl.GroupLikes(s.coalgebra)
		if code == impl.ErrLimit {
			continue
		}
		reduced, _ := impl.ReduceVectors(s.coalgebra.Prime, s.coalgebra.Size, list)
		if code != impl.ErrNone || len(reduced) != len(list) {
			t.Errorf("%s: %v, %d, are not independent", s.name, list, code)
		}
		ordered := slices.IsSortedFunc(list, func(v, w impl.Vector) int { return slices.Compare(v[:], w[:]) })
		if !ordered {
			t.Errorf("%s: %v are not in order", s.name, list)
		}
	}
}

func TestGroupLikesChosen(t *testing.T) {
	for _, c := range []struct {
		name string
		c    impl.Coalgebra
		want []impl.Vector
	}{
		{"one point", pointsCoalgebra(2, 1), []impl.Vector{{1}}},
		{"points", pointsCoalgebra(5, 3), []impl.Vector{{0, 0, 1}, {0, 1}, {1}}},
		{"the dual of matrices", dualByHand(matrices(3)), nil},
		{"Sweedler's", sweedlerCoalgebra(3), []impl.Vector{{0, 1}, {1}}},
		// The circle has those with entries 1 and i, if i i = -1.
		{"circle for 31", circleCoalgebra(31), nil},
		{"circle for 29", circleCoalgebra(29), []impl.Vector{{1, 12}, {1, 17}}},
		{"characters", dualByHand(cyclic(13, 3)), []impl.Vector{{1, 1, 1}, {1, 3, 9}, {1, 9, 3}}},
	} {
		if got, code := impl.GroupLikes(c.c); !slices.Equal(got, c.want) || code != impl.ErrNone {
			t.Errorf("%s: %v, %d, not %v", c.name, got, code, c.want)
		}
	}
}

// TestGroupLikesLimit goes through all primes and sizes. No power of a prime is MaxTried itself: 17
// to the power 3, 4913, is the greatest one that is accepted, and 5 to the power 5 is near as well;
// 3 to the power 8, 6561, is the least one that exceeds it.
func TestGroupLikesLimit(t *testing.T) {
	accepted, rejected := int64(0), int64(1<<62)
	for _, p := range []int64{2, 3, 5, 7, 11, 13, 17, 19, 23, 29, 31} {
		count := int64(1)
		for n := int64(1); n <= 8; n++ {
			count *= p
			got, code := impl.GroupLikes(pointsCoalgebra(p, n))
			switch {
			case count <= 5000:
				accepted = max(accepted, count)
				if len(got) != int(n) || code != impl.ErrNone {
					t.Errorf("%d points for %d: %v, %d", n, p, got, code)
				}
			default:
				rejected = min(rejected, count)
				if len(got) != 0 || code != impl.ErrLimit {
					t.Errorf("%d points for %d: %v, %d", n, p, got, code)
				}
			}
		}
	}
	if accepted != 4913 || rejected != 6561 {
		t.Errorf("%d vectors are accepted, %d rejected", accepted, rejected)
	}
	broken := pointsCoalgebra(31, 8)
	broken.Counit = impl.Vector{}
	if got, code := impl.GroupLikes(broken); len(got) != 0 || code != impl.ErrInvalid {
		t.Errorf("ErrInvalid does not come before ErrLimit: %v, %d", got, code)
	}
}

// isPrimitiveByHand reports whether v is (g, h)-primitive, straight from the definition.
func isPrimitiveByHand(c impl.Coalgebra, g, h, v impl.Vector) bool {
	both := sumOfLinear(c.Prime, pairByHand(c.Prime, v, g), 1, pairByHand(c.Prime, h, v))
	return coproductByHand(c, v) == both
}

func TestPrimitiveSpace(t *testing.T) {
	for _, s := range cosamples() {
		c := s.coalgebra
		all := allVectors(c.Prime, c.Size)
		if len(all) == 0 {
			continue
		}
		groups, _ := impl.GroupLikes(c)
		for _, g := range groups {
			for _, h := range groups {
				space, code := impl.PrimitiveSpace(c, g, h)
				if code != impl.ErrNone || !isReducedByHand(space) {
					t.Errorf("%s: the space of %v and %v is %v, %d", s.name, g, h, space, code)
				}
				span := spanByHand(c.Prime, space)
				for _, v := range all {
					if span[v] != isPrimitiveByHand(c, g, h, v) {
						t.Errorf("%s: %v in the space of %v and %v: %v", s.name, v, g, h, span[v])
					}
				}
			}
		}
	}
}

func TestPrimitiveSpaceChosen(t *testing.T) {
	one, g := impl.Vector{1}, impl.Vector{0, 1}
	sweedler := sweedlerCoalgebra(31)
	for _, c := range []struct {
		name string
		c    impl.Coalgebra
		g, h impl.Vector
		want []impl.Vector
	}{
		{"one point", pointsCoalgebra(2, 1), one, one, nil},
		{"two points", pointsCoalgebra(31, 2), one, g, []impl.Vector{{1, 30}}},
		{"powers", dualByHand(truncated(31, 8)), one, one, []impl.Vector{g}},
		{"powers for 2", dualByHand(truncated(2, 8)), one, one, []impl.Vector{g}},
		{"Sweedler's, 1 and 1", sweedler, one, one, nil},
		{"Sweedler's, g and g", sweedler, g, g, nil},
		{"Sweedler's, 1 and g", sweedler, one, g, []impl.Vector{{1, 30}, {0, 0, 1}}},
		{"Sweedler's, g and 1", sweedler, g, one, []impl.Vector{{1, 30}, {0, 0, 0, 1}}},
	} {
		if got, code := impl.PrimitiveSpace(c.c, c.g, c.h); !slices.Equal(got, c.want) || code != impl.ErrNone {
			t.Errorf("%s: %v, %d, not %v", c.name, got, code, c.want)
		}
	}
}

func TestErrorsOfPrimitiveSpace(t *testing.T) {
	c, one := pointsCoalgebra(5, 2), impl.Vector{1}
	broken := c
	broken.Counit = impl.Vector{}
	for _, e := range []struct {
		name string
		c    impl.Coalgebra
		g    impl.Vector
		code int64
	}{
		{"0", c, impl.Vector{}, impl.ErrState},
		{"a sum of points", c, impl.Vector{1, 1}, impl.ErrState},
		{"a multiple of a point", c, impl.Vector{2}, impl.ErrState},
		{"Counit 1, but not group-like", c, impl.Vector{3, 3}, impl.ErrState},
		{"an entry 5", c, impl.Vector{5}, impl.ErrInvalid},
		{"an entry 6 for 1", c, impl.Vector{6}, impl.ErrInvalid},
		{"an entry behind", c, impl.Vector{1, 0, 1}, impl.ErrInvalid},
		{"no coalgebra", broken, one, impl.ErrInvalid},
		{"no coalgebra, and 0", broken, impl.Vector{}, impl.ErrInvalid},
	} {
		if got, code := impl.PrimitiveSpace(e.c, e.g, one); len(got) != 0 || code != e.code {
			t.Errorf("%s as g: %v, %d", e.name, got, code)
		}
		if got, code := impl.PrimitiveSpace(e.c, one, e.g); len(got) != 0 || code != e.code {
			t.Errorf("%s as h: %v, %d", e.name, got, code)
		}
	}
	for _, v := range []impl.Vector{{}, {2}} {
		bad := impl.Vector{2: 1}
		if _, code := impl.PrimitiveSpace(c, v, bad); code != impl.ErrInvalid {
			t.Errorf("ErrInvalid for h does not come before ErrState for g: %d", code)
		}
		if _, code := impl.PrimitiveSpace(c, bad, v); code != impl.ErrInvalid {
			t.Errorf("ErrInvalid for g does not come before ErrState for h: %d", code)
		}
	}
}

// middlesByHand returns what spans the subcoalgebra of v, straight from the definition.
func middlesByHand(c impl.Coalgebra, v impl.Vector) []impl.Vector {
	var list []impl.Vector
	for j := range c.Size {
		for l := range c.Size {
			var sum impl.Vector
			for k := range c.Size {
				total := 0
				for i := range c.Size {
					for a := range c.Size {
						total += int(v[i]) * int(c.Com[i][j][a]) * int(c.Com[a][k][l])
					}
				}
				sum[k] = byte(total % int(c.Prime))
			}
			list = append(list, sum)
		}
	}
	return list
}

func TestLeastSubcoalgebra(t *testing.T) {
	for _, s := range cosamples() {
		c := s.coalgebra
		for _, v := range someVectors(c.Prime, c.Size)[:min(6, c.Size)] {
			want, _ := impl.ReduceVectors(c.Prime, c.Size, middlesByHand(c, v))
			got, code := impl.LeastSubcoalgebra(c, v)
			if !slices.Equal(got, want) || code != impl.ErrNone {
				t.Errorf("%s: the subcoalgebra of %v is %v, %d, not %v", s.name, v, got, code, want)
			}
			if with, _ := impl.ReduceVectors(c.Prime, c.Size, append(slices.Clone(got), v)); !slices.Equal(with, got) {
				t.Errorf("%s: %v is not in its subcoalgebra %v", s.name, v, got)
			}
			if sub, code := impl.IsSubcoalgebra(c, got); !sub || code != impl.ErrNone {
				t.Errorf("%s: the subcoalgebra %v of %v is none, %d", s.name, got, v, code)
			}
		}
	}
}

func TestLeastSubcoalgebraChosen(t *testing.T) {
	whole := []impl.Vector{{1}, {0, 1}, {0, 0, 1}, {0, 0, 0, 1}}
	for _, c := range []struct {
		name string
		c    impl.Coalgebra
		v    impl.Vector
		want []impl.Vector
	}{
		{"0", pointsCoalgebra(2, 8), impl.Vector{}, nil},
		{"one point", pointsCoalgebra(31, 1), impl.Vector{30}, whole[:1]},
		{"two of three points", pointsCoalgebra(31, 3), impl.Vector{2, 0, 30}, []impl.Vector{{1}, {0, 0, 1}}},
		{"a power", dualByHand(truncated(31, 8)), impl.Vector{0, 0, 5}, whole[:3]},
		{"the dual of matrices", dualByHand(matrices(31)), impl.Vector{0, 0, 7}, whole},
		{"g of Sweedler's", sweedlerCoalgebra(5), impl.Vector{0, 2}, whole[1:2]},
		{"x of Sweedler's", sweedlerCoalgebra(5), impl.Vector{0, 0, 2}, whole[:3]},
		{"g x of Sweedler's", sweedlerCoalgebra(5), impl.Vector{0, 0, 0, 1}, []impl.Vector{{1}, {0, 1}, {0, 0, 0, 1}}},
	} {
		if got, code := impl.LeastSubcoalgebra(c.c, c.v); !slices.Equal(got, c.want) || code != impl.ErrNone {
			t.Errorf("%s: %v, %d, not %v", c.name, got, code, c.want)
		}
	}
}

// isSubcoalgebraByHand reports whether the coproducts of the span of a list are among all sums of
// v (x) w for v and w in it.
func isSubcoalgebraByHand(c impl.Coalgebra, list []impl.Vector) bool {
	basis, _ := impl.ReduceVectors(c.Prime, c.Size, list)
	sums := map[impl.Linear]bool{{}: true}
	for _, v := range basis {
		for _, w := range basis {
			next := map[impl.Linear]bool{}
			for m := range sums {
				for x := range c.Prime {
					next[sumOfLinear(c.Prime, m, x, pairByHand(c.Prime, v, w))] = true
				}
			}
			sums = next
		}
	}
	for _, v := range list {
		if !sums[coproductByHand(c, v)] {
			return false
		}
	}
	return true
}

// smallCosamples returns coalgebras of few vectors.
func smallCosamples() []cosample {
	var list []cosample
	for _, s := range cosamples() {
		if s.coalgebra.Prime == 2 && s.coalgebra.Size <= 3 || s.coalgebra.Prime <= 5 && s.coalgebra.Size <= 2 {
			list = append(list, s)
		}
	}
	return list
}

func TestIsSubcoalgebra(t *testing.T) {
	seen := map[bool]int{}
	for _, s := range smallCosamples() {
		c := s.coalgebra
		all := allVectors(c.Prime, c.Size)
		for _, v := range all {
			for _, w := range all {
				for _, list := range [][]impl.Vector{nil, {v}, {v, w}, {w, v, w, {1}}} {
					want := isSubcoalgebraByHand(c, list)
					if got, code := impl.IsSubcoalgebra(c, list); got != want || code != impl.ErrNone {
						t.Errorf("%s: the space of %v is a subcoalgebra: %v, %d", s.name, list, got, code)
					}
					seen[want]++
				}
			}
		}
	}
	if seen[true] == 0 || seen[false] == 0 {
		t.Errorf("subcoalgebras and others: %v", seen)
	}
}

// TestLeastSubcoalgebraIsLeast goes through all spaces of two vectors.
func TestLeastSubcoalgebraIsLeast(t *testing.T) {
	for _, s := range smallCosamples() {
		c := s.coalgebra
		all := allVectors(c.Prime, c.Size)
		for _, v := range all {
			for _, w := range all {
				list := []impl.Vector{v, w}
				if !isSubcoalgebraByHand(c, list) {
					continue
				}
				least, _ := impl.LeastSubcoalgebra(c, v)
				span := spanByHand(c.Prime, list)
				for _, x := range least {
					if !span[x] {
						t.Errorf("%s: the subcoalgebra of %v has %v, but that of %v has not", s.name, v, x, list)
					}
				}
			}
		}
	}
}

func TestIsSubcoalgebraChosen(t *testing.T) {
	var whole []impl.Vector
	for i := range int64(8) {
		whole = append(whole, unitVector(i))
	}
	sweedler := sweedlerCoalgebra(31)
	for _, c := range []struct {
		name string
		c    impl.Coalgebra
		list []impl.Vector
		want bool
	}{
		{"an empty list", sweedler, []impl.Vector{}, true},
		{"no list", sweedler, nil, true},
		{"0", sweedler, []impl.Vector{{}, {}}, true},
		{"a multiple of g", sweedler, []impl.Vector{{0, 7}}, true},
		{"1 and x", sweedler, []impl.Vector{{1}, {0, 0, 1}}, false},
		{"g and x", sweedler, []impl.Vector{{0, 1}, {0, 0, 1}}, false},
		{"1, g and x", sweedler, []impl.Vector{{1, 1}, {0, 2}, {5, 0, 1}}, true},
		{"all of Sweedler's", sweedler, whole[:4], true},
		{"all of 8 points", pointsCoalgebra(31, 8), whole, true},
		{"some points", pointsCoalgebra(31, 8), []impl.Vector{{1, 1}, {1, 2}, {7: 3}}, true},
		{"a sum of points", pointsCoalgebra(31, 8), []impl.Vector{{1, 1}}, false},
		{"the first powers", dualByHand(truncated(31, 8)), whole[:5], true},
		{"powers without the first one", dualByHand(truncated(31, 8)), whole[1:], false},
		{"the dual of matrices", dualByHand(matrices(31)), whole[:4], true},
		{"a part of the dual of matrices", dualByHand(matrices(31)), whole[:3], false},
	} {
		given := slices.Clone(c.list)
		if got, code := impl.IsSubcoalgebra(c.c, c.list); got != c.want || code != impl.ErrNone {
			t.Errorf("%s: %v, %d", c.name, got, code)
		}
		if !slices.Equal(c.list, given) {
			t.Errorf("%s: IsSubcoalgebra has changed %v to %v", c.name, given, c.list)
		}
	}
	spare := []impl.Vector{{1, 1}, {1, 2}, {9, 9}, {9, 9}}
	given := slices.Clone(spare)
	if _, code := impl.IsSubcoalgebra(pointsCoalgebra(5, 2), spare[:2]); code != impl.ErrNone || !slices.Equal(spare, given) {
		t.Errorf("IsSubcoalgebra has the code %d, and has changed %v to %v", code, given, spare)
	}
}

// checkInvalidCo calls all functions of a coalgebra and vectors, one of which is not as told.
func checkInvalidCo(t *testing.T, name string, c impl.Coalgebra, v impl.Vector) {
	t.Helper()
	check := func(function string, zero bool, code int64) {
		t.Helper()
		if !zero || code != impl.ErrInvalid {
			t.Errorf("%s: %s returns the code %d, its results are zero values: %v", name, function, code, zero)
		}
	}
	m, code := impl.CoproductIn(c, v)
	check("CoproductIn", m == impl.Linear{}, code)
	x, code := impl.CounitIn(c, v)
	check("CounitIn", x == 0, code)
	yes, code := impl.IsGroupLike(c, v)
	check("IsGroupLike", !yes, code)
	list, code := impl.PrimitiveSpace(c, v, impl.Vector{1})
	check("PrimitiveSpace with it as g", len(list) == 0, code)
	list, code = impl.PrimitiveSpace(c, impl.Vector{1}, v)
	check("PrimitiveSpace with it as h", len(list) == 0, code)
	list, code = impl.LeastSubcoalgebra(c, v)
	check("LeastSubcoalgebra", len(list) == 0, code)
	for _, vectors := range [][]impl.Vector{{v}, {v, {1}}, {{1}, {}, v}} {
		yes, code = impl.IsSubcoalgebra(c, vectors)
		check(fmt.Sprint("IsSubcoalgebra with ", vectors), !yes, code)
	}
}

func TestInvalidCoalgebras(t *testing.T) {
	for _, s := range brokenCoalgebras() {
		checkInvalidCo(t, s.name, s.coalgebra, impl.Vector{1})
		checkInvalidCo(t, s.name, s.coalgebra, impl.Vector{})
		if a, code := impl.DualAlgebra(s.coalgebra); a != (impl.Algebra{}) || code != impl.ErrInvalid {
			t.Errorf("%s: DualAlgebra returns the code %d", s.name, code)
		}
		if yes, code := impl.IsCocommutative(s.coalgebra); yes || code != impl.ErrInvalid {
			t.Errorf("%s: IsCocommutative returns %v, %d", s.name, yes, code)
		}
		if list, code := impl.GroupLikes(s.coalgebra); len(list) != 0 || code != impl.ErrInvalid {
			t.Errorf("%s: GroupLikes returns %v, %d", s.name, list, code)
		}
		if yes, code := impl.IsSubcoalgebra(s.coalgebra, nil); yes || code != impl.ErrInvalid {
			t.Errorf("%s: IsSubcoalgebra of no list returns %v, %d", s.name, yes, code)
		}
		for _, a := range []impl.Algebra{matrices(3), cyclic(5, 8)} {
			checkInvalidMaps(t, s.name, s.coalgebra, a)
		}
	}
	for _, s := range brokenAlgebras() {
		if c, code := impl.DualCoalgebra(s.algebra); c != (impl.Coalgebra{}) || code != impl.ErrInvalid {
			t.Errorf("%s: DualCoalgebra returns the code %d", s.name, code)
		}
		for _, c := range []impl.Coalgebra{sweedlerCoalgebra(3), pointsCoalgebra(5, 8)} {
			checkInvalidMaps(t, s.name, c, s.algebra)
		}
	}
}

// checkInvalidMaps calls the functions of a coalgebra and an algebra, one of which is none.
func checkInvalidMaps(t *testing.T, name string, c impl.Coalgebra, a impl.Algebra) {
	t.Helper()
	for _, f := range []impl.Linear{{}, {{1}}} {
		if got, code := impl.ConvolveMaps(c, a, f, f); got != (impl.Linear{}) || code != impl.ErrInvalid {
			t.Errorf("%s: ConvolveMaps returns the code %d", name, code)
		}
	}
	if got, code := impl.UnitMap(c, a); got != (impl.Linear{}) || code != impl.ErrInvalid {
		t.Errorf("%s: UnitMap returns the code %d", name, code)
	}
}

func TestUnitMapOfOtherPrimes(t *testing.T) {
	for _, p := range []int64{2, 3, 31} {
		for _, q := range []int64{2, 3, 31} {
			got, code := impl.UnitMap(pointsCoalgebra(p, 8), cyclic(q, 1))
			want := int64(impl.ErrNone)
			if p != q {
				want = impl.ErrRange
			}
			if code != want || code != impl.ErrNone && got != (impl.Linear{}) {
				t.Errorf("the Primes %d and %d: %v, %d", p, q, got, code)
			}
		}
	}
}

func TestInvalidVectorsOfCoalgebras(t *testing.T) {
	for _, v := range []impl.Vector{{3}, {255}, {0, 0, 0, 3}, {0, 0, 0, 0, 1}, {7: 1}} {
		checkInvalidCo(t, "a vector", sweedlerCoalgebra(3), v)
	}
}
