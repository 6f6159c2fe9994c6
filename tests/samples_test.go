package tests

import (
	"fmt"
	"math/rand"

	"loop.example/g01230/impl"
)

// sample is an algebra that the tests go through.
type sample struct {
	name    string
	algebra impl.Algebra
}

// algebraOf returns the algebra of a prime, a size and a Unit in which the product of e(i) and
// e(j) is the sum of the basis elements that products tells.
func algebraOf(p, n int64, unit impl.Vector, products func(i, j int64) []int64) impl.Algebra {
	a := impl.Algebra{Prime: p, Size: n, Unit: unit}
	for i := range n {
		for j := range n {
			for _, k := range products(i, j) {
				a.Mul[i][j][k]++
			}
		}
	}
	return a
}

// cyclic returns the group algebra of a cyclic group.
func cyclic(p, n int64) impl.Algebra {
	return algebraOf(p, n, impl.Vector{1}, func(i, j int64) []int64 { return []int64{(i + j) % n} })
}

// truncated returns the algebra of the powers of x with x^n = 0.
func truncated(p, n int64) impl.Algebra {
	return algebraOf(p, n, impl.Vector{1}, func(i, j int64) []int64 {
		if i+j < n {
			return []int64{i + j}
		}
		return nil
	})
}

// points returns the algebra of n idempotents, the sum of which is the Unit.
func points(p, n int64) impl.Algebra {
	var unit impl.Vector
	for i := range n {
		unit[i] = 1
	}
	return algebraOf(p, n, unit, func(i, j int64) []int64 {
		if i == j {
			return []int64{i}
		}
		return nil
	})
}

// matrices returns the algebra of tables of two rows.
func matrices(p int64) impl.Algebra {
	return algebraOf(p, 4, impl.Vector{1, 0, 0, 1}, func(i, j int64) []int64 {
		if i%2 == j/2 {
			return []int64{i/2*2 + j%2}
		}
		return nil
	})
}

// triangular returns the algebra of upper triangular tables of two rows.
func triangular(p int64) impl.Algebra {
	a := impl.Algebra{Prime: p, Size: 3, Unit: impl.Vector{1, 0, 1}}
	a.Mul[0][0][0], a.Mul[0][1][1], a.Mul[1][2][1], a.Mul[2][2][2] = 1, 1, 1, 1
	return a
}

// dihedral returns the group algebra of the group of r and s with r^n = s s = 1 and s r = r^-1 s.
func dihedral(p, n int64) impl.Algebra {
	return algebraOf(p, 2*n, impl.Vector{1}, func(i, j int64) []int64 {
		turn := i + j
		if i >= n {
			turn = i - j + n
		}
		return []int64{turn%n + (i/n+j/n)%2*n}
	})
}

// slantedBasis returns the basis f(i) = e(i) + 2 e(i-1) + 3 e(i-2) + .., with which tables have few
// zeros.
func slantedBasis(p, n int64) [8]impl.Vector {
	var basis [8]impl.Vector
	for i := range n {
		for j := range i + 1 {
			basis[i][j] = byte((i - j + 1) % p)
		}
	}
	return basis
}

// toSlanted returns the factors of v for the slanted basis.
func toSlanted(p, n int64, v impl.Vector) impl.Vector {
	basis := slantedBasis(p, n)
	var w impl.Vector
	for i := n - 1; i >= 0; i-- {
		w[i] = v[i]
		v = sumByHand(p, v, p-int64(w[i]), basis[i])
	}
	return w
}

// slanted returns the same algebra with the slanted basis.
func slanted(a impl.Algebra) impl.Algebra {
	basis := slantedBasis(a.Prime, a.Size)
	b := impl.Algebra{Prime: a.Prime, Size: a.Size, Unit: toSlanted(a.Prime, a.Size, a.Unit)}
	for i := range a.Size {
		for j := range a.Size {
			b.Mul[i][j] = toSlanted(a.Prime, a.Size, productByHand(a, basis[i], basis[j]))
		}
	}
	return b
}

// samples returns algebras of all sizes, commutative ones and others, for small and great primes.
func samples() []sample {
	var list []sample
	add := func(name string, a impl.Algebra) {
		list = append(list, sample{fmt.Sprint(name, " of ", a.Size, " for ", a.Prime), a})
	}
	for _, p := range []int64{2, 3, 5, 31} {
		for n := int64(1); n <= impl.MaxSize; n++ {
			add("cyclic", cyclic(p, n))
			add("truncated", truncated(p, n))
			add("points", points(p, n))
		}
		for _, a := range []impl.Algebra{matrices(p), triangular(p), dihedral(p, 3), dihedral(p, 4)} {
			add("plain", a)
			add("slanted", slanted(a))
		}
		add("slanted cyclic", slanted(cyclic(p, 8)))
	}
	return list
}

// brokenAlgebras returns structs each of which violates one condition for algebras. Those named
// "axiom .." have the form of an algebra.
func brokenAlgebras() []sample {
	good := matrices(3)
	var list []sample
	add := func(name string, change func(a *impl.Algebra)) {
		a := good
		change(&a)
		list = append(list, sample{name, a})
	}
	list = append(list, sample{"zero value", impl.Algebra{}})
	for _, p := range []int64{-3, 0, 1, 4, 9, 32, 37, 3 + 256, -1 << 63, 1<<63 - 1} {
		add(fmt.Sprint("Prime ", p), func(a *impl.Algebra) { a.Prime = p })
	}
	for _, n := range []int64{-1, 0, 3, 9, 4 + 256, -1 << 63, 1<<63 - 1} {
		add(fmt.Sprint("Size ", n), func(a *impl.Algebra) { a.Size = n })
	}
	add("Unit with 3", func(a *impl.Algebra) { a.Unit[0] = 3 })
	add("Unit with 4 for 1", func(a *impl.Algebra) { a.Unit[0] = 4 })
	add("Unit behind", func(a *impl.Algebra) { a.Unit[4] = 1 })
	add("Mul with 3", func(a *impl.Algebra) { a.Mul[0][3][0] = 3 })
	add("Mul with 4 for 1", func(a *impl.Algebra) { a.Mul[0][0][0] = 4 })
	add("Mul behind in entries", func(a *impl.Algebra) { a.Mul[3][3][4] = 1 })
	add("Mul behind in vectors", func(a *impl.Algebra) { a.Mul[3][4][0] = 1 })
	add("Mul behind in linear maps", func(a *impl.Algebra) { a.Mul[4][0][0] = 1 })
	add("Mul at the end", func(a *impl.Algebra) { a.Mul[7][7][7] = 1 })
	add("axiom of the Unit", func(a *impl.Algebra) { a.Unit = impl.Vector{1} })
	add("axiom of the Unit, 0", func(a *impl.Algebra) { a.Unit = impl.Vector{} })
	left := impl.Algebra{Prime: 3, Size: 2, Unit: impl.Vector{1}}
	left.Mul[0] = impl.Linear{{1}, {0, 1}}
	list = append(list, sample{"axiom of the Unit on the right", left})
	right := impl.Algebra{Prime: 3, Size: 2, Unit: impl.Vector{1}}
	right.Mul[0][0], right.Mul[1][0] = impl.Vector{1}, impl.Vector{0, 1}
	list = append(list, sample{"axiom of the Unit on the left", right})
	loose := cyclic(3, 3)
	loose.Mul[1][1] = impl.Vector{0, 1}
	list = append(list, sample{"axiom of associativity", loose})
	return list
}

// productByHand multiplies vectors straight from the definition.
func productByHand(a impl.Algebra, v, w impl.Vector) impl.Vector {
	var product impl.Vector
	for k := range product {
		sum := 0
		for i := range v {
			for j := range w {
				sum += int(v[i]) * int(w[j]) * int(a.Mul[i][j][k])
			}
		}
		product[k] = byte(sum % int(a.Prime))
	}
	return product
}

// sumByHand returns v + c w modulo p.
func sumByHand(p int64, v impl.Vector, c int64, w impl.Vector) impl.Vector {
	for i := range v {
		v[i] = byte((int64(v[i]) + c*int64(w[i])) % p)
	}
	return v
}

// unitVector returns e(i).
func unitVector(i int64) impl.Vector {
	var e impl.Vector
	e[i] = 1
	return e
}

// allVectors returns all vectors for p and n if there are at most 1000, and none otherwise.
func allVectors(p, n int64) []impl.Vector {
	list := []impl.Vector{{}}
	for i := range n {
		var next []impl.Vector
		for _, v := range list {
			for x := range p {
				v[i] = byte(x)
				next = append(next, v)
			}
		}
		list = next
		if len(list) > 1000 {
			return nil
		}
	}
	return list
}

// someVectors returns vectors for p and n: all if these are few, and else 0, the basis, greatest
// entries, and others that are the same in each run.
func someVectors(p, n int64) []impl.Vector {
	if all := allVectors(p, n); len(all) > 0 && len(all) <= 32 {
		return all
	}
	list := []impl.Vector{{}, {}}
	for i := range n {
		list[1][i] = byte(p - 1)
		list = append(list, unitVector(i))
	}
	source := rand.New(rand.NewSource(100*p + n))
	for range 12 {
		list = append(list, randomVector(source, p, n))
	}
	return list
}

// randomVector returns the next vector for p and n.
func randomVector(source *rand.Rand, p, n int64) impl.Vector {
	var v impl.Vector
	for i := range n {
		v[i] = byte(source.Int63n(p))
	}
	return v
}

// cosample is a coalgebra that the tests go through.
type cosample struct {
	name      string
	coalgebra impl.Coalgebra
}

// dualByHand returns what has the coproducts and the Counit of the dual coalgebra of an algebra,
// also of what is none.
func dualByHand(a impl.Algebra) impl.Coalgebra {
	c := impl.Coalgebra{Prime: a.Prime, Size: a.Size, Counit: a.Unit}
	for i := range 8 {
		for j := range 8 {
			for k := range 8 {
				c.Com[i][j][k] = a.Mul[j][k][i]
			}
		}
	}
	return c
}

// pointsCoalgebra returns the coalgebra of n group-like basis elements.
func pointsCoalgebra(p, n int64) impl.Coalgebra {
	return dualByHand(points(p, n))
}

// sweedlerCoalgebra returns the coalgebra of 1, g, x and g x, with 1 and g group-like and the
// coproducts g (x) x + x (x) 1 and 1 (x) g x + g x (x) g.
func sweedlerCoalgebra(p int64) impl.Coalgebra {
	c := impl.Coalgebra{Prime: p, Size: 4, Counit: impl.Vector{1, 1}}
	c.Com[0][0][0], c.Com[1][1][1] = 1, 1
	c.Com[2][1][2], c.Com[2][2][0] = 1, 1
	c.Com[3][0][3], c.Com[3][3][1] = 1, 1
	return c
}

// circleCoalgebra returns the coalgebra of the cosine and the sine, with the coproducts
// c (x) c - s (x) s and s (x) c + c (x) s.
func circleCoalgebra(p int64) impl.Coalgebra {
	c := impl.Coalgebra{Prime: p, Size: 2, Counit: impl.Vector{1}}
	c.Com[0][0][0], c.Com[0][1][1] = 1, byte(p-1)
	c.Com[1][1][0], c.Com[1][0][1] = 1, 1
	return c
}

// cosamples returns coalgebras of all sizes, cocommutative ones and others, for small and great
// primes.
func cosamples() []cosample {
	var list []cosample
	for _, s := range samples() {
		list = append(list, cosample{"the dual of " + s.name, dualByHand(s.algebra)})
	}
	for _, p := range []int64{2, 3, 5, 31} {
		list = append(list, cosample{fmt.Sprint("Sweedler's for ", p), sweedlerCoalgebra(p)})
		list = append(list, cosample{fmt.Sprint("circle for ", p), circleCoalgebra(p)})
	}
	return list
}

// brokenCoalgebras returns structs each of which violates one condition for coalgebras. Those named
// "axiom .." have the form of a coalgebra.
func brokenCoalgebras() []cosample {
	var list []cosample
	for _, s := range brokenAlgebras() {
		list = append(list, cosample{s.name, dualByHand(s.algebra)})
	}
	return list
}

// coproductByHand returns the coproduct of v straight from the definition.
func coproductByHand(c impl.Coalgebra, v impl.Vector) impl.Linear {
	var m impl.Linear
	for j := range m {
		for k := range m {
			sum := 0
			for i, x := range v {
				sum += int(x) * int(c.Com[i][j][k])
			}
			m[j][k] = byte(sum % int(c.Prime))
		}
	}
	return m
}

// counitByHand returns the Counit of v straight from the definition.
func counitByHand(c impl.Coalgebra, v impl.Vector) int64 {
	sum := int64(0)
	for i, x := range v {
		sum += int64(x) * int64(c.Counit[i])
	}
	return sum % c.Prime
}

// pairByHand returns v (x) w.
func pairByHand(p int64, v, w impl.Vector) impl.Linear {
	var m impl.Linear
	for j := range m {
		m[j] = sumByHand(p, impl.Vector{}, int64(v[j]), w)
	}
	return m
}

// sumOfLinear returns f + c g.
func sumOfLinear(p int64, f impl.Linear, c int64, g impl.Linear) impl.Linear {
	for j := range f {
		f[j] = sumByHand(p, f[j], c, g[j])
	}
	return f
}
