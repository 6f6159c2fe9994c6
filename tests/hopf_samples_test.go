package tests

import (
	"fmt"

	"loop.example/g01230/impl"
)

// hopfSample is a Hopf algebra that the tests go through.
type hopfSample struct {
	name string
	hopf impl.Hopf
}

// algebraPart returns the algebra of a Hopf table.
func algebraPart(h impl.Hopf) impl.Algebra {
	return impl.Algebra{Prime: h.Prime, Size: h.Size, Unit: h.Unit, Mul: h.Mul}
}

// coalgebraPart returns the coalgebra of a Hopf table.
func coalgebraPart(h impl.Hopf) impl.Coalgebra {
	return impl.Coalgebra{Prime: h.Prime, Size: h.Size, Counit: h.Counit, Com: h.Com}
}

// hopfOf returns the Hopf table with the parts given.
func hopfOf(a impl.Algebra, c impl.Coalgebra, s impl.Linear) impl.Hopf {
	return impl.Hopf{Prime: a.Prime, Size: a.Size, Unit: a.Unit, Mul: a.Mul,
		Counit: c.Counit, Com: c.Com, Antipode: s}
}

// identityByHand returns the linear map that leads each vector of size n to itself.
func identityByHand(n int64) impl.Linear {
	var f impl.Linear
	for i := range n {
		f[i] = unitVector(i)
	}
	return f
}

// flipByHand returns the linear map with f[k][j] at j, k.
func flipByHand(f impl.Linear) impl.Linear {
	var flip impl.Linear
	for j := range f {
		for k := range f {
			flip[j][k] = f[k][j]
		}
	}
	return flip
}

// pairProductByHand multiplies tables of two vectors straight from the definition.
func pairProductByHand(a impl.Algebra, m, q impl.Linear) impl.Linear {
	var sum impl.Linear
	for j, row := range m {
		for k, x := range row {
			for l, other := range q {
				for r, y := range other {
					if x != 0 && y != 0 {
						pair := pairByHand(a.Prime, a.Mul[j][l], a.Mul[k][r])
						sum = sumOfLinear(a.Prime, sum, int64(x)*int64(y), pair)
					}
				}
			}
		}
	}
	return sum
}

// pointsHopf returns the Hopf table of an algebra whose basis elements are group-like, with S as
// places.
func pointsHopf(a impl.Algebra, s ...int64) impl.Hopf {
	h := hopfOf(a, pointsCoalgebra(a.Prime, a.Size), impl.Linear{})
	for i, place := range s {
		h.Antipode[i] = unitVector(place)
	}
	return h
}

// groupHopf returns the group algebra with an algebra of products of group elements.
func groupHopf(a impl.Algebra) impl.Hopf {
	var s []int64
	for i := range a.Size {
		for j := range a.Size {
			if a.Mul[i][j] == unitVector(0) {
				s = append(s, j)
			}
		}
	}
	return pointsHopf(a, s...)
}

// klein returns the group algebra of two commuting elements of order 2.
func klein(p int64) impl.Algebra {
	return algebraOf(p, 4, impl.Vector{1}, func(i, j int64) []int64 { return []int64{i ^ j} })
}

// quaternions returns the group algebra of the group of 1, i, j, k and, behind them, their
// negatives.
func quaternions(p int64) impl.Algebra {
	return algebraOf(p, 8, impl.Vector{1}, func(i, j int64) []int64 {
		sign := i/4 + j/4
		if i, j = i%4, j%4; i != 0 && j != 0 && (i == j || (j-i+3)%3 == 2) {
			sign++
		}
		return []int64{i ^ j + sign%2*4}
	})
}

// dualHopfByHand returns what has the tables of the dual, also of what is no Hopf algebra.
func dualHopfByHand(h impl.Hopf) impl.Hopf {
	d := impl.Hopf{Prime: h.Prime, Size: h.Size, Unit: h.Counit, Counit: h.Unit}
	for i := range 8 {
		for j := range 8 {
			d.Antipode[i][j] = h.Antipode[j][i]
			for k := range 8 {
				d.Mul[j][k][i] = h.Com[i][j][k]
				d.Com[i][j][k] = h.Mul[j][k][i]
			}
		}
	}
	return d
}

// word tells that e(place) is e(left) e(right).
type word struct{ place, left, right int64 }

// extended returns h with the coproducts, Counits and S of words, which follow from those of their
// parts.
func extended(h impl.Hopf, words []word) impl.Hopf {
	a := algebraPart(h)
	for _, w := range words {
		h.Com[w.place] = pairProductByHand(a, h.Com[w.left], h.Com[w.right])
		h.Counit[w.place] = byte(int64(h.Counit[w.left]) * int64(h.Counit[w.right]) % h.Prime)
		h.Antipode[w.place] = productByHand(a, h.Antipode[w.right], h.Antipode[w.left])
	}
	return h
}

// withPrimitive returns h with the coproduct g (x) x + x (x) 1, the Counit 0 and S(x) = s for x =
// e(place) and g = e(group).
func withPrimitive(h impl.Hopf, place, group int64, s impl.Vector) impl.Hopf {
	h.Com[place] = impl.Linear{}
	h.Com[place][group][place]++
	h.Com[place][place][0]++
	h.Counit[place] = 0
	h.Antipode[place] = s
	return h
}

// lineHopf returns the Hopf algebra of the powers of a primitive x with x^p = k x.
func lineHopf(p, k int64) impl.Hopf {
	a := impl.Algebra{Prime: p, Size: p, Unit: impl.Vector{1}}
	var words []word
	for i := range p {
		for j := range p {
			if i+j < p {
				a.Mul[i][j][i+j] = 1
			} else {
				a.Mul[i][j][i+j-p+1] = byte(k)
			}
		}
		if i > 1 {
			words = append(words, word{i, 1, i - 1})
		}
	}
	h := pointsHopf(a, 0)
	return extended(withPrimitive(h, 1, 0, impl.Vector{0, byte(p - 1)}), words)
}

// signByHand returns (-1)^k modulo p.
func signByHand(p, k int64) byte {
	if k%2 == 0 {
		return 1
	}
	return byte(p - 1)
}

// skewHopf returns the Hopf algebra of g^m = 1 and x x = k (g g - 1), with x g = - g x and the
// coproduct g (x) x + x (x) 1 of x, for an even m; g^a x^b stands at a + m b. With m = 2 it is
// Sweedler's.
func skewHopf(p, m, k int64) impl.Hopf {
	a := impl.Algebra{Prime: p, Size: 2 * m, Unit: impl.Vector{1}}
	for i := range 2 * m {
		for j := range 2 * m {
			sign, power := signByHand(p, i/m*j), (i+j)%m
			if i < m || j < m {
				a.Mul[i][j][power+(i/m+j/m)*m] = sign
				continue
			}
			square := sumByHand(p, unitVector((power+2)%m), p-1, unitVector(power))
			a.Mul[i][j] = sumByHand(p, impl.Vector{}, k*int64(sign), square)
		}
	}
	h := pointsHopf(a, 0)
	var words []word
	for i := range m {
		h.Antipode[i] = unitVector((m - i) % m)
		if i > 0 {
			words = append(words, word{m + i, i, m})
		}
	}
	s := productByHand(a, unitVector(m-1), unitVector(m))
	return extended(withPrimitive(h, m, 1, sumByHand(p, impl.Vector{}, p-1, s)), words)
}

// bentHopf returns the Hopf algebra for 2 of g g = 1 and x x = x with x g = g x + g + 1 and the
// coproduct g (x) x + x (x) 1 of x; the basis is 1, g, x, g x.
func bentHopf() impl.Hopf {
	a := impl.Algebra{Prime: 2, Size: 4, Unit: impl.Vector{1}, Mul: impl.Table{
		{{1}, {0, 1}, {0, 0, 1}, {0, 0, 0, 1}},
		{{0, 1}, {1}, {0, 0, 0, 1}, {0, 0, 1}},
		{{0, 0, 1}, {1, 1, 0, 1}, {0, 0, 1}, {0, 0, 1}},
		{{0, 0, 0, 1}, {1, 1, 1}, {0, 0, 0, 1}, {0, 0, 0, 1}},
	}}
	h := pointsHopf(a, 0, 1)
	return extended(withPrimitive(h, 2, 1, impl.Vector{3: 1}), []word{{3, 1, 2}})
}

// doubleHopf returns the Hopf algebra with g, x and y, each of x and y with g as in Sweedler's, and
// y x = - x y; g^a x^b y^c stands at a + 2 b + 4 c.
func doubleHopf(p int64) impl.Hopf {
	a := impl.Algebra{Prime: p, Size: 8, Unit: impl.Vector{1}}
	for i := range int64(8) {
		for j := range int64(8) {
			// x x and y y are 0, and i & j &^ 1 tells the x and y that are on both sides.
			if i&j&^1 == 0 {
				swaps := i/2%2*(j%2) + i/4*(j%2) + i/4*(j/2%2)
				a.Mul[i][j][i^j] = signByHand(p, swaps)
			}
		}
	}
	h := pointsHopf(a, 0, 1)
	h = withPrimitive(h, 2, 1, impl.Vector{3: byte(p - 1)})
	h = withPrimitive(h, 4, 1, impl.Vector{5: byte(p - 1)})
	return extended(h, []word{{3, 1, 2}, {5, 1, 4}, {6, 2, 4}, {7, 1, 6}})
}

// slantedHopf returns the same Hopf algebra with the slanted basis.
func slantedHopf(h impl.Hopf) impl.Hopf {
	p, n := h.Prime, h.Size
	basis, c := slantedBasis(p, n), coalgebraPart(h)
	var s impl.Linear
	var slantedC impl.Coalgebra
	for i, v := range basis[:n] {
		s[i] = toSlanted(p, n, imageByHand(p, h.Antipode, v))
		slantedC.Counit[i] = byte(counitByHand(c, v))
		slantedC.Com[i] = coproductByHand(c, v)
		for range 2 {
			for j, row := range slantedC.Com[i] {
				slantedC.Com[i][j] = toSlanted(p, n, row)
			}
			slantedC.Com[i] = flipByHand(slantedC.Com[i])
		}
	}
	return hopfOf(slanted(algebraPart(h)), slantedC, s)
}

// hopfSamples returns Hopf algebras of all sizes, commutative and cocommutative ones and others,
// for small and great primes.
func hopfSamples() []hopfSample {
	var list []hopfSample
	add := func(name string, h impl.Hopf) {
		name = fmt.Sprint(name, " of ", h.Size, " for ", h.Prime)
		list = append(list, hopfSample{name, h}, hopfSample{"the dual of " + name, dualHopfByHand(h)})
	}
	for _, p := range []int64{2, 3, 5, 31} {
		for n := int64(1); n <= impl.MaxSize; n++ {
			add("cyclic", groupHopf(cyclic(p, n)))
		}
		add("klein", groupHopf(klein(p)))
		for _, a := range []impl.Algebra{dihedral(p, 3), dihedral(p, 4), quaternions(p)} {
			add("group", groupHopf(a))
		}
		for _, k := range []int64{0, 1} {
			add("skew", skewHopf(p, 2, k))
			add("skew", skewHopf(p, 4, k))
		}
		add("double", doubleHopf(p))
		add("slanted dihedral", slantedHopf(groupHopf(dihedral(p, 4))))
		add("slanted skew", slantedHopf(skewHopf(p, 4, 1)))
		add("slanted double", slantedHopf(doubleHopf(p)))
	}
	for _, p := range []int64{2, 3, 5, 7} {
		add("line", lineHopf(p, 0))
		add("split line", lineHopf(p, 1))
		add("slanted line", slantedHopf(lineHopf(p, p-1)))
	}
	add("bent", bentHopf())
	add("slanted bent", slantedHopf(bentHopf()))
	return list
}

// brokenHopf is a Hopf table that violates something.
type brokenHopf struct {
	name string
	hopf impl.Hopf
	// axiom is the number of the first axiom that does not hold, or 0 if it is not shaped.
	axiom int64
}

// brokenShapes returns Hopf tables each of which violates one condition for the form.
func brokenShapes() []brokenHopf {
	var list []brokenHopf
	add := func(name string, change func(h *impl.Hopf)) {
		h := skewHopf(3, 2, 0)
		change(&h)
		list = append(list, brokenHopf{name, h, 0})
	}
	add("zero value", func(h *impl.Hopf) { *h = impl.Hopf{} })
	for _, p := range []int64{-3, 0, 1, 2, 4, 9, 32, 37, 3 + 256, -1 << 63, 1<<63 - 1} {
		add(fmt.Sprint("Prime ", p), func(h *impl.Hopf) { h.Prime = p })
	}
	for _, n := range []int64{-1, 0, 3, 9, 4 + 256, -1 << 63, 1<<63 - 1} {
		add(fmt.Sprint("Size ", n), func(h *impl.Hopf) { h.Size = n })
	}
	vectors := map[string]func(h *impl.Hopf) *impl.Vector{
		"Unit":       func(h *impl.Hopf) *impl.Vector { return &h.Unit },
		"Counit":     func(h *impl.Hopf) *impl.Vector { return &h.Counit },
		"Mul":        func(h *impl.Hopf) *impl.Vector { return &h.Mul[0][0] },
		"Mul 3":      func(h *impl.Hopf) *impl.Vector { return &h.Mul[3][3] },
		"Com":        func(h *impl.Hopf) *impl.Vector { return &h.Com[0][0] },
		"Com 3":      func(h *impl.Hopf) *impl.Vector { return &h.Com[3][3] },
		"Antipode":   func(h *impl.Hopf) *impl.Vector { return &h.Antipode[0] },
		"Antipode 3": func(h *impl.Hopf) *impl.Vector { return &h.Antipode[3] },
	}
	for name, part := range vectors {
		add(name+" with 3", func(h *impl.Hopf) { part(h)[3] = 3 })
		add(name+" with 3 more", func(h *impl.Hopf) { part(h)[0] += 3 })
		add(name+" with 255", func(h *impl.Hopf) { part(h)[1] = 255 })
		add(name+" behind", func(h *impl.Hopf) { part(h)[4] = 1 })
		add(name+" at the end", func(h *impl.Hopf) { part(h)[7] = 1 })
	}
	add("Mul behind in vectors", func(h *impl.Hopf) { h.Mul[3][4][0] = 1 })
	add("Mul behind in linear maps", func(h *impl.Hopf) { h.Mul[4][0][0] = 1 })
	add("Com behind in vectors", func(h *impl.Hopf) { h.Com[3][4][0] = 1 })
	add("Com behind in linear maps", func(h *impl.Hopf) { h.Com[4][0][0] = 1 })
	add("Antipode behind in vectors", func(h *impl.Hopf) { h.Antipode[4][0] = 1 })
	add("Antipode behind at the end", func(h *impl.Hopf) { h.Antipode[7][3] = 1 })
	return list
}

// brokenAxioms returns shaped tables each of which violates an axiom.
//
// Only the axioms 1, 2 and 3 can fail alone. If 1 and 2 hold, 6 and 7 are the same: among finitely
// many basis elements an inverse on one side is one on both. If 3 holds too, the linear map from
// v (x) w to (v (x) 1) times the coproduct of w has an inverse that is made with S; multiplying its
// values by the coproduct of the Unit does not change them, so that this is the one of the pairs,
// which is 4. By duals, 5 follows in the same way. So the tables for 4 and 5 fulfil all else of 1 to
// 5, and those for 6 all of 1 to 5.
func brokenAxioms() []brokenHopf {
	loose := pointsHopf(cyclic(3, 3), 0, 1, 2)
	loose.Mul = impl.Table{{{1}, {0, 1}, {0, 0, 1}}, {{0, 1}, {1}, {0, 1}}, {{0, 0, 1}, {0, 1}, {1}}}
	constant := pointsHopf(impl.Algebra{Prime: 31, Size: 2, Unit: impl.Vector{1}}, 0, 0)
	constant.Mul = impl.Table{{{1}, {1}}, {{1}, {1}}}
	loop := pointsHopf(truncated(3, 2), 0)
	loop = withPrimitive(loop, 1, 0, impl.Vector{0, 2})
	corner := hopfOf(points(5, 2), dualByHand(truncated(5, 2)), impl.Linear{})
	longer := skewHopf(3, 2, 0)
	longer.Size = 5
	list := []brokenHopf{
		{"not associative", loose, 1},
		{"no unit", constant, 1},
		{"basis elements without products", longer, 1},
		{"not coassociative", dualHopfByHand(loose), 2},
		{"no counit", dualHopfByHand(constant), 2},
		{"coproducts of products", loop, 3},
		{"the coproduct of the Unit", corner, 4},
		{"Counits of products", dualHopfByHand(corner), 5},
	}
	return append(list, brokenAntipodes()...)
}

// brokenAntipodes returns shaped bialgebras whose Antipode is not that of a Hopf algebra, or which
// have none.
func brokenAntipodes() []brokenHopf {
	without, identity, inverse := skewHopf(5, 2, 0), skewHopf(5, 2, 0), skewHopf(5, 2, 0)
	without.Antipode = impl.Linear{}
	identity.Antipode = identityByHand(4)
	inverse.Antipode[2], inverse.Antipode[3] = impl.Vector{3: 1}, impl.Vector{2: 4}
	last := groupHopf(cyclic(31, 8))
	last.Antipode[7][7] = 1
	list := []brokenHopf{
		{"no Antipode", without, 6},
		{"the identity as Antipode", identity, 6},
		{"the inverse as Antipode", inverse, 6},
		{"one entry of the Antipode", last, 6},
	}
	for _, s := range monoids() {
		list = append(list, brokenHopf{s.name, s.hopf, 6})
	}
	return list
}

// monoids returns bialgebras that have no antipode, among them some with an Antipode that fits for
// all basis elements but one.
func monoids() []hopfSample {
	var list []hopfSample
	for _, p := range []int64{2, 3, 31} {
		for n := int64(2); n <= impl.MaxSize; n++ {
			most := algebraOf(p, n, impl.Vector{1}, func(i, j int64) []int64 { return []int64{max(i, j)} })
			h := pointsHopf(most, make([]int64, n)...)
			name := fmt.Sprint("the monoid of ", n, " for ", p)
			list = append(list, hopfSample{name, h}, hopfSample{"the dual of " + name, dualHopfByHand(h)})
		}
		// A group with a zero behind it.
		zeroed := algebraOf(p, 4, impl.Vector{1}, func(i, j int64) []int64 {
			if i == 3 || j == 3 {
				return []int64{3}
			}
			return []int64{(i + j) % 3}
		})
		list = append(list, hopfSample{fmt.Sprint("a group with a zero for ", p), pointsHopf(zeroed, 0, 2, 1, 3)})
	}
	return list
}
