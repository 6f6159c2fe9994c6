package tests

import (
	"math/rand"
	"slices"
	"strings"
	"testing"

	"loop.example/g01230/impl"
)

// sizesThatAreNone are numbers that are no sizes of vectors.
var sizesThatAreNone = []int64{-1 << 63, -1, 0, 9, 256 + 1, 1<<63 - 1}

// numbersThatAreNoPrimes are numbers that are no primes of the document.
var numbersThatAreNoPrimes = []int64{-1 << 63, -2, 0, 1, 4, 25, 30, 32, 37, 256 + 2, 1<<63 - 1}

func TestErrorCodes(t *testing.T) {
	codes := []int{impl.ErrNone, impl.ErrInvalid, impl.ErrRange, impl.ErrLimit, impl.ErrNotFound, impl.ErrState, impl.ErrSyntax}
	if !slices.Equal(codes, []int{0, 1, 2, 3, 4, 5, 6}) || impl.MaxSize != 8 || impl.MaxPrime != 31 {
		t.Errorf("codes %v, MaxSize %d, MaxPrime %d", codes, impl.MaxSize, impl.MaxPrime)
	}
}

func TestIsPrime(t *testing.T) {
	primes := []int64{2, 3, 5, 7, 11, 13, 17, 19, 23, 29, 31}
	for p := int64(-40); p <= 300; p++ {
		if got := impl.IsPrime(p); got != slices.Contains(primes, p) {
			t.Errorf("IsPrime(%d) = %v", p, got)
		}
	}
	for _, p := range numbersThatAreNoPrimes {
		if impl.IsPrime(p) {
			t.Errorf("IsPrime(%d) = true", p)
		}
	}
}

func TestIsVector(t *testing.T) {
	for _, n := range sizesThatAreNone {
		if impl.IsVector(5, n, impl.Vector{}) {
			t.Errorf("IsVector accepts the size %d", n)
		}
	}
	for _, p := range numbersThatAreNoPrimes {
		if impl.IsVector(p, 3, impl.Vector{}) {
			t.Errorf("IsVector accepts the prime %d", p)
		}
	}
	for _, p := range []int64{2, 7, 31} {
		for n := int64(1); n <= 8; n++ {
			for i := range int64(8) {
				for _, x := range []int64{1, p - 1, p, p + 1, 255} {
					v := impl.Vector{}
					v[i] = byte(x)
					if got := impl.IsVector(p, n, v); got != (i < n && x < p) {
						t.Errorf("IsVector(%d, %d, %v) = %v", p, n, v, got)
					}
				}
			}
		}
	}
}

func TestIsAlgebra(t *testing.T) {
	for _, s := range samples() {
		if !impl.IsAlgebra(s.algebra) {
			t.Errorf("%s: not an algebra", s.name)
		}
	}
	for _, s := range brokenAlgebras() {
		if impl.IsAlgebra(s.algebra) {
			t.Errorf("%s: an algebra", s.name)
		}
	}
}

// faultByHand returns the first fault straight from the definition.
func faultByHand(a impl.Algebra) []int64 {
	for i := range a.Size {
		for j := range a.Size {
			for k := range a.Size {
				left := productByHand(a, a.Mul[i][j], unitVector(k))
				if left != productByHand(a, unitVector(i), a.Mul[j][k]) {
					return []int64{i, j, k}
				}
			}
		}
	}
	return nil
}

func TestFirstFault(t *testing.T) {
	source := rand.New(rand.NewSource(1))
	for _, s := range samples() {
		if fault, code := impl.FirstFault(s.algebra); len(fault) != 0 || code != impl.ErrNotFound {
			t.Errorf("%s: %v, %d", s.name, fault, code)
		}
		changed := s.algebra
		i, j := source.Int63n(changed.Size), source.Int63n(changed.Size)
		changed.Mul[i][j] = randomVector(source, changed.Prime, changed.Size)
		want, wantCode := faultByHand(changed), int64(impl.ErrNone)
		if want == nil {
			wantCode = impl.ErrNotFound
		}
		if fault, code := impl.FirstFault(changed); !slices.Equal(fault, want) || code != wantCode {
			t.Errorf("%s, changed at %d, %d: %v, %d, not %v", s.name, i, j, fault, code, want)
		}
		if impl.IsAlgebra(changed) && want != nil {
			t.Errorf("%s, changed at %d, %d: an algebra", s.name, i, j)
		}
	}
}

func TestFirstFaultOfBroken(t *testing.T) {
	for _, s := range brokenAlgebras() {
		want := int64(impl.ErrInvalid)
		switch {
		case s.name == "axiom of associativity":
			want = impl.ErrNone
		case strings.HasPrefix(s.name, "axiom"):
			want = impl.ErrNotFound
		}
		fault, code := impl.FirstFault(s.algebra)
		if code != want || (len(fault) != 0) != (want == impl.ErrNone) {
			t.Errorf("%s: %v, %d, not %d", s.name, fault, code, want)
		}
	}
	// The Unit does not matter here, and the last place is found as well.
	last := impl.Algebra{Prime: 2, Size: 8, Unit: impl.Vector{1, 1, 1, 1, 1, 1, 1, 1}}
	last.Mul[7][7][6], last.Mul[6][7][0] = 1, 1
	if fault, code := impl.FirstFault(last); !slices.Equal(fault, []int64{7, 7, 7}) || code != impl.ErrNone {
		t.Errorf("the last place: %v, %d", fault, code)
	}
}

func TestMultiplyVectors(t *testing.T) {
	for _, s := range samples() {
		list := someVectors(s.algebra.Prime, s.algebra.Size)
		for i, v := range list {
			w := list[(5*i+3)%len(list)]
			got, code := impl.MultiplyVectors(s.algebra, v, w)
			if want := productByHand(s.algebra, v, w); got != want || code != impl.ErrNone {
				t.Errorf("%s: %v times %v is %v, %d, not %v", s.name, v, w, got, code, want)
			}
			if got, _ := impl.MultiplyVectors(s.algebra, v, s.algebra.Unit); got != v {
				t.Errorf("%s: %v times the Unit is %v", s.name, v, got)
			}
		}
	}
	full := impl.Vector{30, 30, 30, 30, 30, 30, 30, 30}
	if got, code := impl.MultiplyVectors(cyclic(31, 8), full, full); got != (impl.Vector{8, 8, 8, 8, 8, 8, 8, 8}) || code != impl.ErrNone {
		t.Errorf("the greatest entries: %v, %d", got, code)
	}
}

func TestPowerOf(t *testing.T) {
	for _, s := range samples() {
		for _, v := range someVectors(s.algebra.Prime, s.algebra.Size)[:2] {
			want := s.algebra.Unit
			for k := range int64(101) {
				if slices.Contains([]int64{0, 1, 2, 3, 50, 99, 100}, k) {
					if got, code := impl.PowerOf(s.algebra, v, k); got != want || code != impl.ErrNone {
						t.Errorf("%s: %v to the power %d is %v, %d, not %v", s.name, v, k, got, code, want)
					}
				}
				want = productByHand(s.algebra, want, v)
			}
		}
		for _, k := range []int64{-1 << 63, -1, 101, 1<<63 - 1} {
			if got, code := impl.PowerOf(s.algebra, s.algebra.Unit, k); got != (impl.Vector{}) || code != impl.ErrRange {
				t.Errorf("%s: the power with %d factors is %v, %d", s.name, k, got, code)
			}
		}
	}
	a := cyclic(31, 8)
	if got, code := impl.PowerOf(a, impl.Vector{0, 3}, 100); got != (impl.Vector{0, 0, 0, 0, 25}) || code != impl.ErrNone {
		t.Errorf("100 factors: %v, %d", got, code)
	}
	if _, code := impl.PowerOf(a, impl.Vector{31}, 101); code != impl.ErrInvalid {
		t.Errorf("ErrInvalid does not come before ErrRange: %d", code)
	}
}

// inverseByHand looks through all vectors, and returns false if there is no inverse.
func inverseByHand(a impl.Algebra, v impl.Vector, all []impl.Vector) (impl.Vector, bool) {
	for _, w := range all {
		if productByHand(a, v, w) == a.Unit && productByHand(a, w, v) == a.Unit {
			return w, true
		}
	}
	return impl.Vector{}, false
}

func TestInverseOf(t *testing.T) {
	for _, s := range samples() {
		all := allVectors(s.algebra.Prime, s.algebra.Size)
		for _, v := range someVectors(s.algebra.Prime, s.algebra.Size) {
			got, code := impl.InverseOf(s.algebra, v)
			if len(all) > 0 {
				want, ok := inverseByHand(s.algebra, v, all)
				if got != want || ok != (code == impl.ErrNone) {
					t.Errorf("%s: the inverse of %v is %v, %d, not %v", s.name, v, got, code, want)
				}
			}
			checkInverse(t, s, v, got, code)
		}
	}
}

// checkInverse holds what InverseOf has returned for v against the definition and the promise.
func checkInverse(t *testing.T, s sample, v, inverse impl.Vector, code int64) {
	t.Helper()
	if code == impl.ErrNotFound && inverse == (impl.Vector{}) {
		return
	}
	left, right := productByHand(s.algebra, v, inverse), productByHand(s.algebra, inverse, v)
	if code != impl.ErrNone || left != s.algebra.Unit || right != s.algebra.Unit {
		t.Errorf("%s: the inverse of %v is %v, %d", s.name, v, inverse, code)
	}
	if back, code := impl.InverseOf(s.algebra, inverse); back != v || code != impl.ErrNone {
		t.Errorf("%s: the inverse of the inverse of %v is %v, %d", s.name, v, back, code)
	}
}

func TestInverseOfChosen(t *testing.T) {
	for _, s := range samples() {
		if got, code := impl.InverseOf(s.algebra, s.algebra.Unit); got != s.algebra.Unit || code != impl.ErrNone {
			t.Errorf("%s: the inverse of the Unit is %v, %d", s.name, got, code)
		}
		if got, code := impl.InverseOf(s.algebra, impl.Vector{}); got != (impl.Vector{}) || code != impl.ErrNotFound {
			t.Errorf("%s: the inverse of 0 is %v, %d", s.name, got, code)
		}
	}
	for x := byte(1); x < 31; x++ {
		got, code := impl.InverseOf(cyclic(31, 1), impl.Vector{x})
		if int(got[0])*int(x)%31 != 1 || code != impl.ErrNone {
			t.Errorf("the inverse of %d is %v, %d", x, got, code)
		}
	}
	// In tables of two rows, the inverse of {a, b, c, d} is {d, -b, -c, a} over a d - b c.
	if got, code := impl.InverseOf(matrices(31), impl.Vector{1, 2, 3, 4}); got != (impl.Vector{29, 1, 17, 15}) || code != impl.ErrNone {
		t.Errorf("the inverse of a table is %v, %d", got, code)
	}
	if _, code := impl.InverseOf(matrices(31), impl.Vector{1, 2, 3, 6}); code != impl.ErrNotFound {
		t.Errorf("the inverse of a table with determinant 0: %d", code)
	}
}

// commutes reports whether v and w commute, straight from the definition.
func commutes(a impl.Algebra, v, w impl.Vector) bool {
	return productByHand(a, v, w) == productByHand(a, w, v)
}

// isCentralByHand reports whether v commutes with the basis, and so with all vectors.
func isCentralByHand(a impl.Algebra, v impl.Vector) bool {
	for i := range a.Size {
		if !commutes(a, v, unitVector(i)) {
			return false
		}
	}
	return true
}

// isReducedByHand reports whether a list is reduced.
func isReducedByHand(list []impl.Vector) bool {
	last := -1
	for i, v := range list {
		place := slices.IndexFunc(v[:], func(x byte) bool { return x != 0 })
		if place <= last || v[place] != 1 {
			return false
		}
		for j, w := range list {
			if j != i && w[place] != 0 {
				return false
			}
		}
		last = place
	}
	return true
}

// spanByHand returns all sums of multiples of a list.
func spanByHand(p int64, list []impl.Vector) map[impl.Vector]bool {
	span := map[impl.Vector]bool{{}: true}
	for _, v := range list {
		next := map[impl.Vector]bool{}
		for w := range span {
			for c := range p {
				next[sumByHand(p, w, c, v)] = true
			}
		}
		span = next
	}
	return span
}

func TestCentreOf(t *testing.T) {
	for _, s := range samples() {
		centre, code := impl.CentreOf(s.algebra)
		if code != impl.ErrNone || !isReducedByHand(centre) {
			t.Errorf("%s: the centre is %v, %d", s.name, centre, code)
			continue
		}
		for _, v := range centre {
			if !isCentralByHand(s.algebra, v) {
				t.Errorf("%s: %v is not in the centre", s.name, v)
			}
		}
		with, _ := impl.ReduceVectors(s.algebra.Prime, s.algebra.Size, append(slices.Clone(centre), s.algebra.Unit))
		if !slices.Equal(with, centre) {
			t.Errorf("%s: the Unit is not in the centre", s.name)
		}
		if all := allVectors(s.algebra.Prime, s.algebra.Size); len(all) > 0 {
			span := spanByHand(s.algebra.Prime, centre)
			for _, v := range all {
				if span[v] != isCentralByHand(s.algebra, v) {
					t.Errorf("%s: %v in the centre: %v", s.name, v, span[v])
				}
			}
		}
	}
}

func TestCentreOfChosen(t *testing.T) {
	var whole []impl.Vector
	for i := range int64(8) {
		whole = append(whole, unitVector(i))
	}
	for _, c := range []struct {
		name   string
		a      impl.Algebra
		centre []impl.Vector
	}{
		{"one element", cyclic(2, 1), whole[:1]},
		{"commutative", cyclic(31, 8), whole},
		{"matrices", matrices(31), []impl.Vector{{1, 0, 0, 1}}},
		{"triangular", triangular(2), []impl.Vector{{1, 0, 1}}},
		{"dihedral 3", dihedral(31, 3), []impl.Vector{{1}, {0, 1, 1}, {0, 0, 0, 1, 1, 1}}},
		{"dihedral 4", dihedral(2, 4), []impl.Vector{{1}, {0, 1, 0, 1}, {0, 0, 1}, {0, 0, 0, 0, 1, 0, 1}, {0, 0, 0, 0, 0, 1, 0, 1}}},
	} {
		if got, code := impl.CentreOf(c.a); !slices.Equal(got, c.centre) || code != impl.ErrNone {
			t.Errorf("%s: %v, %d", c.name, got, code)
		}
	}
}

func TestIsCommutative(t *testing.T) {
	for _, s := range samples() {
		want := true
		for i := range s.algebra.Size {
			want = want && isCentralByHand(s.algebra, unitVector(i))
		}
		if got, code := impl.IsCommutative(s.algebra); got != want || code != impl.ErrNone {
			t.Errorf("%s: %v, %d", s.name, got, code)
		}
	}
}

// imageByHand returns the image of v under f.
func imageByHand(p int64, f impl.Linear, v impl.Vector) impl.Vector {
	var image impl.Vector
	for i, x := range v {
		image = sumByHand(p, image, int64(x), f[i])
	}
	return image
}

func TestLeftTable(t *testing.T) {
	for _, s := range samples() {
		p, list := s.algebra.Prime, someVectors(s.algebra.Prime, s.algebra.Size)
		for i, v := range list {
			w := list[(3*i+1)%len(list)]
			f, code := impl.LeftTable(s.algebra, v)
			for j := range int64(8) {
				want := impl.Vector{}
				if j < s.algebra.Size {
					want = productByHand(s.algebra, v, unitVector(j))
				}
				if f[j] != want || code != impl.ErrNone {
					t.Errorf("%s: the left table of %v leads e(%d) to %v, %d", s.name, v, j, f[j], code)
				}
			}
			g, _ := impl.LeftTable(s.algebra, w)
			both, _ := impl.LeftTable(s.algebra, productByHand(s.algebra, v, w))
			for j := range s.algebra.Size {
				if imageByHand(p, f, imageByHand(p, g, unitVector(j))) != both[j] {
					t.Errorf("%s: left tables of %v and %v", s.name, v, w)
				}
			}
		}
	}
}

func TestTraceOf(t *testing.T) {
	for _, s := range samples() {
		p := s.algebra.Prime
		for _, v := range someVectors(p, s.algebra.Size) {
			want := int64(0)
			for i := range s.algebra.Size {
				want += int64(productByHand(s.algebra, v, unitVector(i))[i])
			}
			if got, code := impl.TraceOf(s.algebra, v); got != want%p || code != impl.ErrNone {
				t.Errorf("%s: the trace of %v is %d, %d, not %d", s.name, v, got, code, want%p)
			}
		}
		if got, _ := impl.TraceOf(s.algebra, s.algebra.Unit); got != s.algebra.Size%p {
			t.Errorf("%s: the trace of the Unit is %d", s.name, got)
		}
	}
}

func TestOppositeAlgebra(t *testing.T) {
	for _, s := range samples() {
		o, code := impl.OppositeAlgebra(s.algebra)
		if code != impl.ErrNone || !impl.IsAlgebra(o) || o.Prime != s.algebra.Prime || o.Size != s.algebra.Size || o.Unit != s.algebra.Unit {
			t.Errorf("%s: the opposite is no algebra with the same Unit, %d", s.name, code)
		}
		list := someVectors(s.algebra.Prime, s.algebra.Size)
		for i, v := range list {
			w := list[(7*i+2)%len(list)]
			if got, _ := impl.MultiplyVectors(o, v, w); got != productByHand(s.algebra, w, v) {
				t.Errorf("%s: in the opposite %v times %v is %v", s.name, v, w, got)
			}
		}
		if back, code := impl.OppositeAlgebra(o); back != s.algebra || code != impl.ErrNone {
			t.Errorf("%s: the opposite of the opposite is another algebra, %d", s.name, code)
		}
		if same, _ := impl.IsCommutative(s.algebra); same != (o == s.algebra) {
			t.Errorf("%s: commutative: %v", s.name, same)
		}
	}
}

// joined returns the vector with the first n entries of v, and those of w behind.
func joined(n int64, v, w impl.Vector) impl.Vector {
	copy(v[n:], w[:])
	return v
}

func TestProductAlgebra(t *testing.T) {
	list := samples()
	for i, s := range list {
		for _, u := range []sample{list[(11*i+4)%len(list)], list[(i+1)%len(list)], s, {"plain", triangular(s.algebra.Prime)}, {"one", cyclic(s.algebra.Prime, 1)}} {
			checkProduct(t, s, u)
		}
	}
}

// checkProduct holds the product of two algebras against the definition and the promise.
func checkProduct(t *testing.T, s, u sample) {
	t.Helper()
	a, b := s.algebra, u.algebra
	c, code := impl.ProductAlgebra(a, b)
	want := int64(impl.ErrNone)
	switch {
	case a.Prime != b.Prime:
		want = impl.ErrRange
	case a.Size+b.Size > 8:
		want = impl.ErrLimit
	}
	if code != want || code != impl.ErrNone && c != (impl.Algebra{}) {
		t.Errorf("%s and %s: code %d, not %d", s.name, u.name, code, want)
	}
	if want != impl.ErrNone || code != want {
		return
	}
	if !impl.IsAlgebra(c) || c.Prime != a.Prime || c.Size != a.Size+b.Size || c.Unit != joined(a.Size, a.Unit, b.Unit) {
		t.Errorf("%s and %s: no algebra with the Unit of both", s.name, u.name)
	}
	some, others := someVectors(a.Prime, a.Size), someVectors(b.Prime, b.Size)
	for i := range 8 {
		v, w := some[i%len(some)], some[(i+3)%len(some)]
		x, y := others[(2*i)%len(others)], others[(5*i+1)%len(others)]
		got, _ := impl.MultiplyVectors(c, joined(a.Size, v, x), joined(a.Size, w, y))
		if got != joined(a.Size, productByHand(a, v, w), productByHand(b, x, y)) {
			t.Errorf("%s and %s: %v, %v times %v, %v is %v", s.name, u.name, v, x, w, y, got)
		}
	}
}

func TestProductAlgebraChosen(t *testing.T) {
	c, code := impl.ProductAlgebra(cyclic(3, 1), truncated(3, 2))
	want := impl.Algebra{Prime: 3, Size: 3, Unit: impl.Vector{1, 1}}
	want.Mul[0][0], want.Mul[1][1] = impl.Vector{1}, impl.Vector{0, 1}
	want.Mul[1][2], want.Mul[2][1] = impl.Vector{0, 0, 1}, impl.Vector{0, 0, 1}
	if c != want || code != impl.ErrNone {
		t.Errorf("a small product: %v, %d", c, code)
	}
	broken := cyclic(2, 8)
	broken.Unit = impl.Vector{}
	for _, c := range []struct {
		name string
		a, b impl.Algebra
		code int64
	}{
		{"8 in all", cyclic(31, 7), cyclic(31, 1), impl.ErrNone},
		{"9 in all", cyclic(31, 1), cyclic(31, 8), impl.ErrLimit},
		{"16 in all", cyclic(31, 8), cyclic(31, 8), impl.ErrLimit},
		{"different Primes", cyclic(31, 1), cyclic(29, 1), impl.ErrRange},
		{"different Primes and 16 in all", cyclic(31, 8), cyclic(29, 8), impl.ErrRange},
		{"the first broken", broken, cyclic(3, 8), impl.ErrInvalid},
		{"the second broken", cyclic(3, 8), broken, impl.ErrInvalid},
		{"both broken", broken, broken, impl.ErrInvalid},
	} {
		if got, code := impl.ProductAlgebra(c.a, c.b); code != c.code || code != impl.ErrNone && got != (impl.Algebra{}) {
			t.Errorf("%s: code %d", c.name, code)
		}
	}
}

// checkInvalid calls all functions of an algebra and vectors, one of which is not as told.
func checkInvalid(t *testing.T, name string, a impl.Algebra, v impl.Vector) {
	t.Helper()
	check := func(function string, zero bool, code int64) {
		t.Helper()
		if !zero || code != impl.ErrInvalid {
			t.Errorf("%s: %s returns the code %d, its results are zero values: %v", name, function, code, zero)
		}
	}
	w, code := impl.MultiplyVectors(a, v, impl.Vector{})
	check("MultiplyVectors with it as the first one", w == impl.Vector{}, code)
	w, code = impl.MultiplyVectors(a, impl.Vector{}, v)
	check("MultiplyVectors with it as the second one", w == impl.Vector{}, code)
	for _, k := range []int64{-1, 0, 1, 101} {
		w, code = impl.PowerOf(a, v, k)
		check("PowerOf", w == impl.Vector{}, code)
	}
	w, code = impl.InverseOf(a, v)
	check("InverseOf", w == impl.Vector{}, code)
	f, code := impl.LeftTable(a, v)
	check("LeftTable", f == impl.Linear{}, code)
	n, code := impl.TraceOf(a, v)
	check("TraceOf", n == 0, code)
}

func TestInvalidAlgebras(t *testing.T) {
	for _, s := range brokenAlgebras() {
		checkInvalid(t, s.name, s.algebra, impl.Vector{1})
		checkInvalid(t, s.name, s.algebra, impl.Vector{})
		if list, code := impl.CentreOf(s.algebra); len(list) != 0 || code != impl.ErrInvalid {
			t.Errorf("%s: CentreOf returns %v, %d", s.name, list, code)
		}
		if same, code := impl.IsCommutative(s.algebra); same || code != impl.ErrInvalid {
			t.Errorf("%s: IsCommutative returns %v, %d", s.name, same, code)
		}
		if o, code := impl.OppositeAlgebra(s.algebra); o != (impl.Algebra{}) || code != impl.ErrInvalid {
			t.Errorf("%s: OppositeAlgebra returns the code %d", s.name, code)
		}
		for _, b := range []impl.Algebra{cyclic(3, 1), cyclic(5, 1), cyclic(3, 8)} {
			if c, code := impl.ProductAlgebra(s.algebra, b); c != (impl.Algebra{}) || code != impl.ErrInvalid {
				t.Errorf("%s: ProductAlgebra with it as the first one returns the code %d", s.name, code)
			}
			if c, code := impl.ProductAlgebra(b, s.algebra); c != (impl.Algebra{}) || code != impl.ErrInvalid {
				t.Errorf("%s: ProductAlgebra with it as the second one returns the code %d", s.name, code)
			}
		}
	}
}

func TestInvalidVectors(t *testing.T) {
	for _, v := range []impl.Vector{{3}, {255}, {0, 0, 0, 3}, {0, 0, 0, 0, 1}, {7: 1}} {
		checkInvalid(t, "a vector", matrices(3), v)
	}
}

func TestReduceVectors(t *testing.T) {
	source := rand.New(rand.NewSource(2))
	for _, p := range []int64{2, 3, 31} {
		for n := int64(1); n <= 8; n++ {
			for count := range 11 {
				var list []impl.Vector
				for range count {
					v := randomVector(source, p, n)
					if len(list) > 0 && source.Intn(3) == 0 {
						v = sumByHand(p, list[0], source.Int63n(p), list[len(list)-1])
					}
					list = append(list, v)
				}
				checkReduced(t, p, n, list)
			}
		}
	}
}

// checkReduced holds the reduced list of a list against the definition: it is reduced, spans what
// the list spans, and does not depend on the order.
func checkReduced(t *testing.T, p, n int64, list []impl.Vector) {
	t.Helper()
	given := slices.Clone(list)
	reduced, code := impl.ReduceVectors(p, n, list)
	if code != impl.ErrNone || !isReducedByHand(reduced) || len(reduced) > min(len(list), int(n)) {
		t.Errorf("ReduceVectors(%d, %d, %v) = %v, %d", p, n, list, reduced, code)
		return
	}
	for _, v := range list {
		rest := v
		for _, r := range reduced {
			place := slices.Index(r[:], 1)
			rest = sumByHand(p, rest, (p-int64(v[place]))%p, r)
		}
		if rest != (impl.Vector{}) {
			t.Errorf("ReduceVectors(%d, %d, %v) = %v does not span %v", p, n, list, reduced, v)
		}
	}
	if p == 2 && len(spanByHand(p, list)) != 1<<len(reduced) {
		t.Errorf("ReduceVectors(%d, %d, %v) = %v spans more", p, n, list, reduced)
	}
	slices.Reverse(list)
	if again, _ := impl.ReduceVectors(p, n, append(list, reduced...)); !slices.Equal(again, reduced) {
		t.Errorf("%v, the other way round and with the reduced list: %v, not %v", list, again, reduced)
	}
	slices.Reverse(list)
	for i := range reduced {
		reduced[i] = impl.Vector{77}
	}
	if !slices.Equal(list, given) {
		t.Errorf("ReduceVectors has changed %v to %v", given, list)
	}
}

func TestReduceVectorsChosen(t *testing.T) {
	for _, c := range []struct {
		p, n int64
		list []impl.Vector
		want []impl.Vector
	}{
		{5, 2, []impl.Vector{{2, 4}, {1, 2}}, []impl.Vector{{1, 2}}},
		{2, 1, nil, nil},
		{31, 8, []impl.Vector{}, nil},
		{31, 8, []impl.Vector{{}, {}}, nil},
		{31, 1, []impl.Vector{{30}}, []impl.Vector{{1}}},
		{2, 8, []impl.Vector{{7: 1}, {6: 1, 7: 1}, {1, 0, 0, 0, 0, 0, 1}}, []impl.Vector{{7: 1}, {6: 1}, {1}}},
		{3, 3, []impl.Vector{{0, 2, 1}, {1, 1, 1}}, []impl.Vector{{1, 0, 2}, {0, 1, 2}}},
		{7, 2, []impl.Vector{{3, 1}, {5, 5}, {6, 2}}, []impl.Vector{{1}, {0, 1}}},
	} {
		want := slices.Clone(c.want)
		slices.SortFunc(want, func(v, w impl.Vector) int { return slices.Compare(w[:], v[:]) })
		if got, code := impl.ReduceVectors(c.p, c.n, c.list); !slices.Equal(got, want) || code != impl.ErrNone {
			t.Errorf("ReduceVectors(%d, %d, %v) = %v, %d, not %v", c.p, c.n, c.list, got, code, want)
		}
	}
}

func TestReduceVectorsKeepsSpareCapacity(t *testing.T) {
	whole := []impl.Vector{{1, 1}, {1, 2}, {9, 9}, {9, 9}}
	given := slices.Clone(whole)
	reduced, _ := impl.ReduceVectors(5, 2, whole[:2])
	_ = append(reduced, impl.Vector{8})
	if !slices.Equal(whole, given) {
		t.Errorf("ReduceVectors has changed %v to %v", given, whole)
	}
}

func TestReduceVectorsInvalid(t *testing.T) {
	for _, list := range [][]impl.Vector{nil, {{}}, {{1}}} {
		for _, p := range numbersThatAreNoPrimes {
			if got, code := impl.ReduceVectors(p, 2, list); len(got) != 0 || code != impl.ErrInvalid {
				t.Errorf("the prime %d: %v, %d", p, got, code)
			}
		}
		for _, n := range sizesThatAreNone {
			if got, code := impl.ReduceVectors(5, n, list); len(got) != 0 || code != impl.ErrInvalid {
				t.Errorf("the size %d: %v, %d", n, got, code)
			}
		}
	}
	for _, v := range []impl.Vector{{5}, {0, 255}, {0, 0, 1}, {7: 1}} {
		for _, list := range [][]impl.Vector{{v}, {v, {1}}, {{1}, {0, 1}, {1, 1}, v}} {
			if got, code := impl.ReduceVectors(5, 2, list); len(got) != 0 || code != impl.ErrInvalid {
				t.Errorf("ReduceVectors(5, 2, %v) = %v, %d", list, got, code)
			}
		}
	}
}

func TestVectorsComeBackFromTheirTexts(t *testing.T) {
	for _, p := range []int64{2, 3, 11, 31} {
		for n := int64(1); n <= 8; n++ {
			for _, v := range someVectors(p, n) {
				text, code := impl.VectorText(p, n, v)
				if strings.Count(text, ",") != int(n)-1 || code != impl.ErrNone {
					t.Errorf("VectorText(%d, %d, %v) = %q, %d", p, n, v, text, code)
				}
				if back, code := impl.ParseVector(p, n, text); back != v || code != impl.ErrNone {
					t.Errorf("ParseVector(%d, %d, %q) = %v, %d, not %v", p, n, text, back, code, v)
				}
			}
		}
	}
}

func TestVectorText(t *testing.T) {
	for _, c := range []struct {
		p, n int64
		v    impl.Vector
		text string
		code int64
	}{
		{2, 1, impl.Vector{}, "0", impl.ErrNone},
		{2, 1, impl.Vector{1}, "1", impl.ErrNone},
		{31, 8, impl.Vector{30, 0, 10, 9, 1, 2, 3, 20}, "30,0,10,9,1,2,3,20", impl.ErrNone},
		{31, 2, impl.Vector{0, 7}, "0,7", impl.ErrNone},
		{31, 2, impl.Vector{0, 31}, "", impl.ErrInvalid},
		{31, 2, impl.Vector{0, 7, 1}, "", impl.ErrInvalid},
		{1, 2, impl.Vector{}, "", impl.ErrInvalid},
		{37, 2, impl.Vector{}, "", impl.ErrInvalid},
		{31, 0, impl.Vector{}, "", impl.ErrInvalid},
		{31, 9, impl.Vector{}, "", impl.ErrInvalid},
		{31, -1 << 63, impl.Vector{}, "", impl.ErrInvalid},
	} {
		if text, code := impl.VectorText(c.p, c.n, c.v); text != c.text || code != c.code {
			t.Errorf("VectorText(%d, %d, %v) = %q, %d", c.p, c.n, c.v, text, code)
		}
	}
}

func TestParseVectorWithoutText(t *testing.T) {
	for _, text := range []string{
		"", ",", ",,", "1", "1,2", "1,2,3,4", "1,2,", ",1,2", "1,,2", "1,2,3,", "1;2;3", "1, 2,3", " 1,2,3", "1,2,3 ",
		"1,2,3\n", "1,2,31", "1,2,32", "1,2,287", "1,2,256", "01,2,3", "1,00,3", "+1,2,3", "-1,2,3", "-0,0,0", "1.0,2,3",
		"0x1,2,3", "1_0,2,3", "a,b,c", "1,2,99999999999999999999", "1,2,18446744073709551617", "\u0661,2,3", "1,2,\x00",
		"1,2,3\x00", "1\xff,2,3", strings.Repeat("0,", 5000) + "0", strings.Repeat("0", 5000) + ",0,0",
	} {
		if v, code := impl.ParseVector(31, 3, text); v != (impl.Vector{}) || code != impl.ErrSyntax {
			t.Errorf("ParseVector(31, 3, %q) = %v, %d", text, v, code)
		}
	}
	if _, code := impl.ParseVector(2, 1, "2"); code != impl.ErrSyntax {
		t.Errorf("ParseVector(2, 1, \"2\"): %d", code)
	}
	if _, code := impl.ParseVector(2, 8, "0,0,0,0,0,0,0,0,0"); code != impl.ErrSyntax {
		t.Errorf("ParseVector with nine numbers: %d", code)
	}
}

func TestParseVectorInvalid(t *testing.T) {
	for _, text := range []string{"0,0", "", "x"} {
		for _, p := range numbersThatAreNoPrimes {
			if v, code := impl.ParseVector(p, 2, text); v != (impl.Vector{}) || code != impl.ErrInvalid {
				t.Errorf("ParseVector(%d, 2, %q) = %v, %d", p, text, v, code)
			}
		}
		for _, n := range sizesThatAreNone {
			if v, code := impl.ParseVector(5, n, text); v != (impl.Vector{}) || code != impl.ErrInvalid {
				t.Errorf("ParseVector(5, %d, %q) = %v, %d", n, text, v, code)
			}
		}
	}
}
