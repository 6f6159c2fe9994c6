package tests

import (
	"fmt"

	"loop.example/g01230/impl"
)

// actedSample is an algebra with a module of a Hopf algebra that the tests go through.
type actedSample struct {
	name    string
	hopf    impl.Hopf
	algebra impl.Algebra
	module  impl.Module
}

// keptFacts tells what an action keeps of an algebra.
type keptFacts struct{ unit, products bool }

// isModuleAlgebra reports whether it keeps both.
func (f keptFacts) isModuleAlgebra() bool { return f == keptFacts{true, true} }

// keptFactsByHand looks at an action straight from the definition.
func keptFactsByHand(s actedSample) keptFacts {
	p, facts := s.hopf.Prime, keptFacts{true, true}
	for i := range s.hopf.Size {
		e := unitVector(i)
		if actByHand(p, s.module, e, s.algebra.Unit) != timesByHand(p, int64(s.hopf.Counit[i]), s.algebra.Unit) {
			facts.unit = false
		}
		for x := range s.algebra.Size {
			for y := range s.algebra.Size {
				if actByHand(p, s.module, e, s.algebra.Mul[x][y]) != partsByHand(s, i, x, y) {
					facts.products = false
				}
			}
		}
	}
	return facts
}

// partsByHand returns the sum of Com[i][j][k] (e(j) x) (e(k) y).
func partsByHand(s actedSample, i, x, y int64) impl.Vector {
	var sum impl.Vector
	for j := range s.hopf.Size {
		for k := range s.hopf.Size {
			if c := int64(s.hopf.Com[i][j][k]); c != 0 {
				product := productByHand(s.algebra, s.module.Acts[j][x], s.module.Acts[k][y])
				sum = sumByHand(s.hopf.Prime, sum, c, product)
			}
		}
	}
	return sum
}

// crossByHand returns v # w for the sizes n of the second factor, number by number.
func crossByHand(p, n int64, v, w impl.Vector) impl.Vector {
	var cross impl.Vector
	for place, x := range v {
		for i := range n {
			if x != 0 && w[i] != 0 {
				cross[n*int64(place)+i] = byte(int64(x) * int64(w[i]) % p)
			}
		}
	}
	return cross
}

// smashByHand returns the smash product straight from the definition.
func smashByHand(s actedSample) impl.Algebra {
	h, a := s.hopf, s.algebra
	n, size := h.Size, a.Size*h.Size
	smash := impl.Algebra{Prime: h.Prime, Size: size, Unit: crossByHand(h.Prime, n, a.Unit, h.Unit)}
	for first := range size {
		for second := range size {
			x, i, y, j := first/n, first%n, second/n, second%n
			for k := range n {
				for l := range n {
					product := crossByHand(h.Prime, n, productByHand(a, unitVector(x), s.module.Acts[k][y]), h.Mul[l][j])
					smash.Mul[first][second] = sumByHand(h.Prime, smash.Mul[first][second], int64(h.Com[i][k][l]), product)
				}
			}
		}
	}
	return smash
}

// smashHopfs returns the Hopf algebras whose actions and comodules the tests go through: those whose
// modules they go through, and tensor products, with their duals.
func smashHopfs() []hopfSample {
	list := moduleHopfs()
	for _, s := range []hopfSample{
		{"cyclic 2 with Sweedler's for 31", tensorByHand(groupHopf(cyclic(31, 2)), skewHopf(31, 2, 0))},
		{"Sweedler's with functions on cyclic 2 for 3", tensorByHand(skewHopf(3, 2, 0), dualHopfByHand(groupHopf(cyclic(3, 2))))},
		{"the line with bent for 2", tensorByHand(lineHopf(2, 0), bentHopf())},
		{"cyclic 3 with the split line for 2", tensorByHand(groupHopf(cyclic(2, 3)), lineHopf(2, 1))},
	} {
		list = append(list, s, hopfSample{"the dual of " + s.name, dualHopfByHand(s.hopf)})
	}
	return list
}

// hitModule returns the module of the dual of h in which f(k) leads e(i) to the sum of Com[i][j][k]
// e(j); with it the algebra of h is a module algebra.
func hitModule(h impl.Hopf) impl.Module {
	m := impl.Module{Dim: h.Size}
	for i := range h.Size {
		for j := range h.Size {
			for k := range h.Size {
				m.Acts[k][i][j] = h.Com[i][j][k]
			}
		}
	}
	return m
}

// quadratic returns the algebra of u with u u = c.
func quadratic(p, c int64) impl.Algebra {
	a := truncated(p, 2)
	a.Mul[1][1][0] = byte(c)
	return a
}

// algebrasOf returns algebras of a size, all of which are there for each prime.
func algebrasOf(p, n int64) []sample {
	list := []sample{{"points", points(p, n)}, {"truncated", truncated(p, n)}, {"cyclic", cyclic(p, n)}}
	switch n {
	case 1:
		return append(list[:1], sample{"scaled", slantedUnit(p)})
	case 2:
		list = append(list, sample{"quadratic", quadratic(p, p-1)})
	case 3:
		list = append(list, sample{"triangular", triangular(p)})
	case 4:
		list = append(list, sample{"matrices", matrices(p)}, sample{"slanted matrices", slanted(matrices(p))})
	case 6:
		list = append(list, sample{"dihedral", dihedral(p, 3)})
	case 8:
		list = append(list, sample{"slanted dihedral", slanted(dihedral(p, 4))})
	}
	return list
}

// slantedUnit returns the algebra of the size 1 with the Unit - e(0).
func slantedUnit(p int64) impl.Algebra {
	return impl.Algebra{Prime: p, Size: 1, Unit: impl.Vector{byte(p - 1)}, Mul: impl.Table{{{byte(p - 1)}}}}
}

// diagonal returns the linear map with numbers modulo p times the basis elements as its images.
func diagonal(p int64, numbers ...int64) impl.Linear {
	var f impl.Linear
	for i, x := range numbers {
		f[i][i] = byte((x%p + p) % p)
	}
	return f
}

// gradedModule returns the module of the functions on cyclic n in which the basis elements have
// degrees.
func gradedModule(degrees ...int64) impl.Module {
	m := impl.Module{Dim: int64(len(degrees))}
	for i, degree := range degrees {
		m.Acts[degree][i][i] = 1
	}
	return m
}

// eulerModule returns the module of the line in which x leads the basis element i to i times it.
func eulerModule(p, n int64) impl.Module {
	m := impl.Module{Dim: n}
	for k := range p {
		for i := range n {
			m.Acts[k][i][i] = byte(power(i, k) % p)
		}
	}
	return m
}

// derivativeModule returns the module of the line with x^p = 0 in which x leads the basis element i
// to i times the one before it.
func derivativeModule(p, n int64) impl.Module {
	m := impl.Module{Dim: n}
	for i := range n {
		factor := int64(1)
		for k := range min(p, i+1) {
			m.Acts[k][i][i-k] = byte(factor % p)
			factor *= i - k
		}
	}
	return m
}

// skewDerivativeModule returns the module of Sweedler's Hopf algebra in which g leads u to - u, and x
// leads u to c.
func skewDerivativeModule(p, c int64) impl.Module {
	x := impl.Linear{1: {byte(c)}}
	return impl.Module{Dim: 2, Acts: [8]impl.Linear{identityByHand(2), diagonal(p, 1, -1), x, x}}
}

// chosenActions returns module algebras, each of which is there for a prime.
func chosenActions(p int64) []actedSample {
	two, three := groupHopf(cyclic(p, 2)), groupHopf(cyclic(p, 3))
	act := func(dim int64, acts ...impl.Linear) impl.Module {
		m := impl.Module{Dim: dim}
		copy(m.Acts[:], acts)
		return m
	}
	swap := impl.Linear{{0, 1}, {1}}
	double := act(2, identityByHand(2), diagonal(p, 1, -1), impl.Linear{1: {1}}, impl.Linear{1: {1}},
		impl.Linear{1: {byte(p - 1)}}, impl.Linear{1: {byte(p - 1)}})
	return []actedSample{
		{"two points exchanged", two, points(p, 2), act(2, identityByHand(2), swap)},
		{"pairs of points exchanged", two, points(p, 4), act(4, identityByHand(4), impl.Linear{{2: 1}, {3: 1}, {1}, {0, 1}})},
		{"three points turned", three, points(p, 3), act(3, identityByHand(3), impl.Linear{{0, 1}, {0, 0, 1}, {1}}, impl.Linear{{0, 0, 1}, {1}, {0, 1}})},
		{"three points turned and turned round", groupHopf(dihedral(p, 3)), points(p, 3), permutationModule(3)},
		{"powers with signs", two, truncated(p, 4), act(4, identityByHand(4), diagonal(p, 1, -1, 1, -1))},
		{"tables with signs", two, matrices(p), act(4, identityByHand(4), diagonal(p, 1, -1, -1, 1))},
		{"tables turned", two, matrices(p), act(4, identityByHand(4), impl.Linear{{3: 1}, {2: 1}, {0, 1}, {1}})},
		{"powers with degrees", dualHopfByHand(three), truncated(p, 2), gradedModule(0, 1)},
		{"powers with other degrees", dualHopfByHand(three), truncated(p, 5), gradedModule(0, 2, 1, 0, 2)},
		{"tables with degrees", dualHopfByHand(two), matrices(p), gradedModule(0, 1, 1, 0)},
		{"group elements with degrees", dualHopfByHand(groupHopf(cyclic(p, 4))), cyclic(p, 2), gradedModule(0, 2)},
		{"a skew derivative", skewHopf(p, 2, 0), quadratic(p, p-1), skewDerivativeModule(p, 1)},
		{"a skew derivative of nilpotent ones", skewHopf(p, 2, 0), quadratic(p, 0), skewDerivativeModule(p, p-1)},
		{"two skew derivatives", doubleHopf(p), quadratic(p, 1), double},
	}
}

// derivatives returns module algebras of lines.
func derivatives() []actedSample {
	list := []actedSample{
		{"the derivative of powers of t up to 7", lineHopf(2, 0), truncated(2, 8), derivativeModule(2, 8)},
		{"the derivative of powers of t up to 3", lineHopf(2, 0), truncated(2, 4), derivativeModule(2, 4)},
	}
	for _, p := range []int64{2, 3, 5, 7} {
		for _, n := range []int64{1, 2, 4} {
			list = append(list, actedSample{fmt.Sprint("degrees up to ", n-1, " for ", p), lineHopf(p, 1), truncated(p, n), eulerModule(p, n)})
		}
		list = append(list, actedSample{fmt.Sprint("the derivative for ", p), lineHopf(p, 0), truncated(p, p), derivativeModule(p, p)})
	}
	return list
}

// slantedAction returns the same algebra and module with the slanted basis.
func slantedAction(s actedSample) actedSample {
	return actedSample{"slanted " + s.name, s.hopf, slanted(s.algebra), slantedModule(s.hopf, s.module)}
}

// joinedAction returns the product of an algebra and that of points, on which the action is trivial.
func joinedAction(s actedSample, n int64) actedSample {
	a, _ := impl.ProductAlgebra(s.algebra, points(s.hopf.Prime, n))
	return actedSample{s.name + " with points", s.hopf, a, sumModuleByHand(s.module, trivialByHand(s.hopf, n))}
}

// actedSamples returns module algebras of all sizes: adjoint ones, those of duals, trivial actions,
// and others.
func actedSamples() []actedSample {
	var list []actedSample
	for _, s := range smashHopfs() {
		h, dual := s.hopf, dualHopfByHand(s.hopf)
		adjoint := actedSample{"adjoint, " + s.name, h, algebraPart(h), adjointByHand(h)}
		hit := actedSample{"the algebra of the dual, " + s.name, h, algebraPart(dual), hitModule(dual)}
		list = append(list, adjoint, hit)
		if h.Size <= 4 {
			list = append(list, slantedAction(adjoint), slantedAction(hit), joinedAction(hit, 1), joinedAction(adjoint, 4))
		}
		for _, n := range []int64{1, 2, 3, 4, 8} {
			for _, a := range algebrasOf(h.Prime, n) {
				if n*h.Size <= impl.MaxSize || n == 2 {
					list = append(list, actedSample{fmt.Sprint("trivial on ", a.name, " of ", n, ", ", s.name), h, a.algebra, trivialByHand(h, n)})
				}
			}
		}
	}
	for _, p := range []int64{2, 3, 5, 31} {
		for _, s := range chosenActions(p) {
			s.name = fmt.Sprint(s.name, " for ", p)
			list = append(list, s, slantedAction(s), joinedAction(s, 2))
		}
	}
	for _, s := range derivatives() {
		list = append(list, s, slantedAction(s))
	}
	return list
}

// otherActions returns algebras with modules most of which are no module algebras: all modules of the
// samples, on algebras of their Dim, and module algebras with a basis of the module that is not that
// of the algebra.
func otherActions() []actedSample {
	var list []actedSample
	for _, s := range moduleSamples() {
		for _, a := range algebrasOf(s.hopf.Prime, s.module.Dim) {
			list = append(list, actedSample{s.name + ", on " + a.name, s.hopf, a.algebra, s.module})
		}
	}
	for _, s := range actedSamples() {
		other := slantedModule(s.hopf, s.module)
		if other != s.module {
			list = append(list, actedSample{"turned away, " + s.name, s.hopf, s.algebra, other})
		}
	}
	return list
}

// comoduleSample is a comodule that the tests go through, with its Hopf algebra.
type comoduleSample struct {
	name     string
	hopf     impl.Hopf
	comodule impl.Comodule
}

// comoduleByHand returns what is told of v(i) by what each f(k) leads it to.
func comoduleByHand(m impl.Module) impl.Comodule {
	c := impl.Comodule{Dim: m.Dim}
	for i := range 8 {
		for j := range 8 {
			for k := range 8 {
				c.Co[i][j][k] = m.Acts[k][i][j]
			}
		}
	}
	return c
}

// trivialComoduleByHand returns the comodule of a Dim in which each v(i) leads to v(i) (x) Unit.
func trivialComoduleByHand(h impl.Hopf, dim int64) impl.Comodule {
	c := impl.Comodule{Dim: dim}
	for i := range dim {
		c.Co[i][i] = h.Unit
	}
	return c
}

// comoduleSamples returns comodules of all Dims: regular and trivial ones, and duals of modules.
func comoduleSamples() []comoduleSample {
	var list []comoduleSample
	for _, s := range smashHopfs() {
		h := s.hopf
		list = append(list, comoduleSample{"regular, " + s.name, h, impl.Comodule{Dim: h.Size, Co: h.Com}})
		for _, dim := range []int64{1, 3, impl.MaxSize} {
			list = append(list, comoduleSample{fmt.Sprint("trivial ", dim, ", ", s.name), h, trivialComoduleByHand(h, dim)})
		}
		for _, m := range modulesOf(hopfSample{"the dual of " + s.name, dualHopfByHand(h)}) {
			list = append(list, comoduleSample{"the dual of a module, " + m.name, h, comoduleByHand(m.module)})
		}
	}
	return list
}

// comoduleFacts tells what a table has of a comodule.
type comoduleFacts struct{ form, coassociative, counit bool }

// isComodule reports whether it has all of these.
func (f comoduleFacts) isComodule() bool { return f == comoduleFacts{true, true, true} }

// comoduleFactsByHand looks at a table straight from the definition. What has not the form has none
// of the others.
func comoduleFactsByHand(h impl.Hopf, c impl.Comodule) comoduleFacts {
	if !hasFormOfComodule(h, c) {
		return comoduleFacts{}
	}
	facts := comoduleFacts{true, true, true}
	for i := range c.Dim {
		for j := range c.Dim {
			var value int64
			if i == j {
				value = 1
			}
			if counitByHand(coalgebraPart(h), c.Co[i][j]) != value {
				facts.counit = false
			}
			if coproductByHand(coalgebraPart(h), c.Co[i][j]) != twiceByHand(h, c, i, j) {
				facts.coassociative = false
			}
		}
	}
	return facts
}

// hasFormOfComodule reports whether the Dim and the numbers are in their ranges, with 0 for all
// others.
func hasFormOfComodule(h impl.Hopf, c impl.Comodule) bool {
	if c.Dim < 1 || c.Dim > 8 {
		return false
	}
	for i := range int64(8) {
		for j := range int64(8) {
			for k := range int64(8) {
				x := int64(c.Co[i][j][k])
				if x >= h.Prime || x != 0 && (i >= c.Dim || j >= c.Dim || k >= h.Size) {
					return false
				}
			}
		}
	}
	return true
}

// twiceByHand returns the sums over a of Co[i][a][l] Co[a][j][k], at k, l.
func twiceByHand(h impl.Hopf, c impl.Comodule, i, j int64) impl.Linear {
	var sums impl.Linear
	for a := range c.Dim {
		sums = sumOfLinear(h.Prime, sums, 1, pairByHand(h.Prime, c.Co[a][j], c.Co[i][a]))
	}
	return sums
}

// coactByHand returns what v leads to: the linear map with the number at v(j) (x) e(k) as the entry k
// of its image j.
func coactByHand(p int64, c impl.Comodule, v impl.Vector) impl.Linear {
	var sum impl.Linear
	for i, x := range v {
		sum = sumOfLinear(p, sum, int64(x), impl.Linear(c.Co[i]))
	}
	return sum
}

// brokenComodule is what is no comodule of a Hopf algebra.
type brokenComodule struct {
	name     string
	hopf     impl.Hopf
	comodule impl.Comodule
}

// ladder returns the comodule of Sweedler's Hopf algebra with v(0) to v(0) (x) g, and v(1) to v(0) (x)
// x + v(1) (x) 1.
func ladder() impl.Comodule {
	return impl.Comodule{Dim: 2, Co: impl.Table{{{0, 1}}, {{0, 0, 1}, {1}}}}
}

// brokenComodules returns structs each of which violates one condition for comodules.
func brokenComodules() []brokenComodule {
	w := skewHopf(3, 2, 0)
	var list []brokenComodule
	add := func(name string, change func(c *impl.Comodule)) {
		// The Dim is 3, so that there is room behind it, and behind the size of w.
		c := ladder()
		c.Dim = 3
		c.Co[2][2][0] = 1
		change(&c)
		list = append(list, brokenComodule{name, w, c})
	}
	add("zero value", func(c *impl.Comodule) { *c = impl.Comodule{} })
	for _, dim := range []int64{-1 << 63, -1, 0, 2, 4, 8, 9, 3 + 256, 3 + 1<<32, 1<<63 - 1} {
		add(fmt.Sprint("Dim ", dim), func(c *impl.Comodule) { c.Dim = dim })
	}
	for i := range 3 {
		add(fmt.Sprint("3 for v ", i), func(c *impl.Comodule) { c.Co[i][1][3] = 3 })
		add(fmt.Sprint("3 more for v ", i), func(c *impl.Comodule) { c.Co[i][i][0] += 3 })
		add(fmt.Sprint("255 for v ", i), func(c *impl.Comodule) { c.Co[i][2][0] = 255 })
		add(fmt.Sprint("an element behind the size for v ", i), func(c *impl.Comodule) { c.Co[i][2][4] = 1 })
		add(fmt.Sprint("an element at the end for v ", i), func(c *impl.Comodule) { c.Co[i][0][7] = 1 })
		add(fmt.Sprint("v behind the Dim for v ", i), func(c *impl.Comodule) { c.Co[i][3][0] = 1 })
		add(fmt.Sprint("v at the end for v ", i), func(c *impl.Comodule) { c.Co[i][7][3] = 1 })
	}
	for i := 3; i < 8; i++ {
		add(fmt.Sprint("the Unit behind the Dim, ", i), func(c *impl.Comodule) { c.Co[i][i][0] = 1 })
		add(fmt.Sprint("v behind the Dim to v(0), ", i), func(c *impl.Comodule) { c.Co[i][0][0] = 1 })
	}
	add("the end", func(c *impl.Comodule) { c.Co[7][7][7] = 1 })
	add("all to 0", func(c *impl.Comodule) { c.Co = impl.Table{} })
	add("one to 0", func(c *impl.Comodule) { c.Co[2] = impl.Linear{} })
	add("v(2) to twice itself", func(c *impl.Comodule) { c.Co[2][2][0] = 2 })
	add("v(2) to itself and another one", func(c *impl.Comodule) { c.Co[2][0][0] = 1 })
	add("v(2) to itself (x) 2 g - 1", func(c *impl.Comodule) { c.Co[2][2] = impl.Vector{2, 2} })
	add("v(2) to itself (x) 1 + x", func(c *impl.Comodule) { c.Co[2][2] = impl.Vector{1, 0, 1} })
	add("x and g the other way round", func(c *impl.Comodule) { c.Co[0][0], c.Co[1][1] = c.Co[1][1], c.Co[0][0] })
	add("g x for x", func(c *impl.Comodule) { c.Co[1][0] = impl.Vector{0, 0, 0, 1} })
	return append(list, otherBrokenComodules()...)
}

// otherBrokenComodules returns more of them, for other Hopf algebras.
func otherBrokenComodules() []brokenComodule {
	functions, eight := dualHopfByHand(groupHopf(dihedral(31, 3))), groupHopf(cyclic(31, 8))
	// The elements act from the right, and v(i) leads to the sum of Com[i][k][j] v(j) (x) e(k).
	turned := impl.Comodule{Dim: 6}
	for i := range functions.Size {
		turned.Co[i] = flipByHand(functions.Com[i])
	}
	last := impl.Comodule{Dim: 8, Co: eight.Com}
	last.Co[7][7] = impl.Vector{7: 2}
	one := groupHopf(cyclic(2, 1))
	return []brokenComodule{
		{"coproducts the other way round", functions, turned},
		{"one of the last numbers", eight, last},
		{"a comodule of another one", eight, impl.Comodule{Dim: 6, Co: functions.Com}},
		{"a comodule of a greater one", functions, impl.Comodule{Dim: 8, Co: eight.Com}},
		{"an element of a greater one", one, impl.Comodule{Dim: 1, Co: impl.Table{{{0, 1}}}}},
		{"0 for size 1", one, impl.Comodule{Dim: 1}},
		{"2 for size 1", one, impl.Comodule{Dim: 1, Co: impl.Table{{{2}}}}},
		{"Dim 9 for size 1", one, impl.Comodule{Dim: 9, Co: trivialComoduleByHand(one, 8).Co}},
		{"entries for a greater prime", groupHopf(cyclic(3, 2)), impl.Comodule{Dim: 1, Co: impl.Table{{{4}}}}},
		{"a root of 1 for another prime", dualHopfByHand(groupHopf(cyclic(3, 3))), impl.Comodule{Dim: 1, Co: impl.Table{{{1, 2, 1}}}}},
	}
}
