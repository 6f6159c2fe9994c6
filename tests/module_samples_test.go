package tests

import (
	"fmt"
	"slices"

	"loop.example/g01230/impl"
)

// moduleSample is a module that the tests go through, with its Hopf algebra.
type moduleSample struct {
	name   string
	hopf   impl.Hopf
	module impl.Module
}

// actByHand returns a v straight from the definition.
func actByHand(p int64, m impl.Module, a, v impl.Vector) impl.Vector {
	var image impl.Vector
	for k := range image {
		sum := 0
		for i, x := range a {
			for j, y := range v {
				sum += int(x) * int(y) * int(m.Acts[i][j][k])
			}
		}
		image[k] = byte(sum % int(p))
	}
	return image
}

// isModuleByHand reports whether m has what is required of a module of a Hopf algebra, straight
// from the definition.
func isModuleByHand(h impl.Hopf, m impl.Module) bool {
	if m.Dim < 1 || m.Dim > 8 {
		return false
	}
	for i := range int64(8) {
		for j := range int64(8) {
			for k := range int64(8) {
				x := int64(m.Acts[i][j][k])
				if x >= h.Prime || x != 0 && (i >= h.Size || j >= m.Dim || k >= m.Dim) {
					return false
				}
			}
		}
	}
	for k := range m.Dim {
		v := unitVector(k)
		if actByHand(h.Prime, m, h.Unit, v) != v {
			return false
		}
		for i := range h.Size {
			for j := range h.Size {
				if actByHand(h.Prime, m, h.Mul[i][j], v) != actByHand(h.Prime, m, unitVector(i), m.Acts[j][k]) {
					return false
				}
			}
		}
	}
	return true
}

// trivialByHand returns the trivial module.
func trivialByHand(h impl.Hopf, dim int64) impl.Module {
	m := impl.Module{Dim: dim}
	for i := range h.Size {
		for j := range dim {
			m.Acts[i][j][j] = h.Counit[i]
		}
	}
	return m
}

// regularByHand returns the regular module.
func regularByHand(h impl.Hopf) impl.Module {
	return impl.Module{Dim: h.Size, Acts: h.Mul}
}

// adjointByHand returns the module in which e(i) leads v to the sum of Com[i][j][k] e(j) v S(e(k)).
func adjointByHand(h impl.Hopf) impl.Module {
	m, a := impl.Module{Dim: h.Size}, algebraPart(h)
	for i := range h.Size {
		for v := range h.Size {
			for j := range h.Size {
				part := productByHand(a, h.Mul[j][v], imageByHand(h.Prime, h.Antipode, h.Com[i][j]))
				m.Acts[i][v] = sumByHand(h.Prime, m.Acts[i][v], 1, part)
			}
		}
	}
	return m
}

// sumModuleByHand returns the sum of two modules.
func sumModuleByHand(m, k impl.Module) impl.Module {
	sum := m
	sum.Dim += k.Dim
	for i := range 8 {
		for j := range k.Dim {
			for l := range k.Dim {
				sum.Acts[i][m.Dim+j][m.Dim+l] = k.Acts[i][j][l]
			}
		}
	}
	return sum
}

// tensorModuleByHand returns the tensor product of two modules, number by number.
func tensorModuleByHand(h impl.Hopf, m, k impl.Module) impl.Module {
	tensor := impl.Module{Dim: m.Dim * k.Dim}
	for i := range h.Size {
		for x := range tensor.Dim {
			for y := range tensor.Dim {
				sum := 0
				for a := range h.Size {
					for b := range h.Size {
						first, second := m.Acts[a][x/k.Dim][y/k.Dim], k.Acts[b][x%k.Dim][y%k.Dim]
						sum += int(h.Com[i][a][b]) * int(first) * int(second)
					}
				}
				tensor.Acts[i][x][y] = byte(sum % int(h.Prime))
			}
		}
	}
	return tensor
}

// dualModuleByHand returns the dual of a module: e(i) f(j) has, for v(k), the entry j of S(e(i)) v(k).
func dualModuleByHand(h impl.Hopf, m impl.Module) impl.Module {
	dual := impl.Module{Dim: m.Dim}
	for i := range h.Size {
		for j := range m.Dim {
			for k := range m.Dim {
				dual.Acts[i][j][k] = actByHand(h.Prime, m, h.Antipode[i], unitVector(k))[j]
			}
		}
	}
	return dual
}

// placesByHand returns the first places of a reduced list, and all others below n.
func placesByHand(n int64, reduced []impl.Vector) (first, others []int64) {
	for place := range n {
		isFirst := func(v impl.Vector) bool {
			return v[place] == 1 && slices.Max(append(v[:place:place], 0)) == 0
		}
		if slices.ContainsFunc(reduced, isFirst) {
			first = append(first, place)
		} else {
			others = append(others, place)
		}
	}
	return first, others
}

// submoduleByHand returns the submodule with a reduced list as its basis; the entries of its vectors
// at the first places tell which sums of the list they are.
func submoduleByHand(h impl.Hopf, m impl.Module, reduced []impl.Vector) impl.Module {
	first, _ := placesByHand(m.Dim, reduced)
	sub := impl.Module{Dim: int64(len(reduced))}
	for i := range h.Size {
		for j, v := range reduced {
			image := actByHand(h.Prime, m, unitVector(i), v)
			for k, place := range first {
				sub.Acts[i][j][k] = image[place]
			}
		}
	}
	return sub
}

// projectionByHand returns the linear map to the quotient by a reduced list: the basis elements that
// are left are led to the new basis, and the others to what is left of them if the vector of the list
// that has 1 there is taken away.
func projectionByHand(p, n int64, reduced []impl.Vector) impl.Linear {
	first, others := placesByHand(n, reduced)
	var f impl.Linear
	for k, place := range others {
		f[place][k] = 1
		for i, v := range reduced {
			f[first[i]][k] = byte((p - int64(v[place])) % p)
		}
	}
	return f
}

// quotientByHand returns the quotient by a submodule, told by its reduced list.
func quotientByHand(h impl.Hopf, m impl.Module, reduced []impl.Vector) impl.Module {
	_, others := placesByHand(m.Dim, reduced)
	f := projectionByHand(h.Prime, m.Dim, reduced)
	quotient := impl.Module{Dim: int64(len(others))}
	for i := range h.Size {
		for k, place := range others {
			quotient.Acts[i][k] = imageByHand(h.Prime, f, m.Acts[i][place])
		}
	}
	return quotient
}

// slantedModule returns the same module with the slanted basis.
func slantedModule(h impl.Hopf, m impl.Module) impl.Module {
	basis := slantedBasis(h.Prime, m.Dim)
	other := impl.Module{Dim: m.Dim}
	for i := range h.Size {
		for j := range m.Dim {
			other.Acts[i][j] = toSlanted(h.Prime, m.Dim, actByHand(h.Prime, m, unitVector(i), basis[j]))
		}
	}
	return other
}

// imagesOfVectors returns what all e(i) lead a list of vectors to.
func imagesOfVectors(h impl.Hopf, m impl.Module, list ...impl.Vector) []impl.Vector {
	var images []impl.Vector
	for _, v := range list {
		for i := range h.Size {
			images = append(images, actByHand(h.Prime, m, unitVector(i), v))
		}
	}
	return images
}

// reducedByHand returns the reduced list of the space of a list of vectors (chapter 1).
func reducedByHand(h impl.Hopf, m impl.Module, list []impl.Vector) []impl.Vector {
	reduced, _ := impl.ReduceVectors(h.Prime, m.Dim, list)
	return reduced
}

// isClosedByHand reports whether the e(i) lead the space of a list of vectors into itself, which is
// so if what they lead to does not add to the space.
func isClosedByHand(h impl.Hopf, m impl.Module, list []impl.Vector) bool {
	grown := slices.Concat(list, imagesOfVectors(h, m, list...))
	return len(reducedByHand(h, m, grown)) == len(reducedByHand(h, m, list))
}

// moduleHopfs returns the Hopf algebras whose modules the tests go through: group algebras, functions
// on groups, lines, Sweedler's, the double one and others, with their duals.
func moduleHopfs() []hopfSample {
	var list []hopfSample
	add := func(name string, h impl.Hopf) {
		name = fmt.Sprint(name, " of ", h.Size, " for ", h.Prime)
		list = append(list, hopfSample{name, h}, hopfSample{"the dual of " + name, dualHopfByHand(h)})
	}
	for _, p := range []int64{2, 3, 31} {
		for _, n := range []int64{1, 2, 3, 8} {
			add("cyclic", groupHopf(cyclic(p, n)))
		}
		for _, a := range []impl.Algebra{dihedral(p, 3), quaternions(p)} {
			add("group", groupHopf(a))
		}
		add("skew", skewHopf(p, 2, 0))
		add("slanted skew", slantedHopf(skewHopf(p, 4, 1)))
		add("double", doubleHopf(p))
	}
	for _, p := range []int64{2, 3, 5, 7} {
		add("line", lineHopf(p, 0))
		add("split line", lineHopf(p, 1))
	}
	add("slanted double", slantedHopf(doubleHopf(31)))
	add("slanted bent", slantedHopf(bentHopf()))
	return list
}

// modulesOf returns modules of a Hopf algebra: trivial and regular ones, their duals, submodules and
// quotients, sums and tensor products.
func modulesOf(s hopfSample) []moduleSample {
	h := s.hopf
	var list []moduleSample
	found := map[impl.Module]bool{}
	add := func(name string, m impl.Module) {
		if m.Dim >= 1 && m.Dim <= impl.MaxSize && !found[m] {
			found[m] = true
			list = append(list, moduleSample{s.name + ", " + name, h, m})
		}
	}
	regular := regularByHand(h)
	add("trivial 1", trivialByHand(h, 1))
	add("regular", regular)
	add("the dual of regular", dualModuleByHand(h, regular))
	add("slanted adjoint", slantedModule(h, adjointByHand(h)))
	integral, _ := impl.RightIntegral(h)
	vectors := someVectors(h.Prime, h.Size)
	for i, v := range []impl.Vector{integral, vectors[len(vectors)-1], sumByHand(h.Prime, unitVector(0), h.Prime-1, unitVector(h.Size-1))} {
		reduced := reducedByHand(h, regular, imagesOfVectors(h, regular, v))
		sub, quotient := submoduleByHand(h, regular, reduced), quotientByHand(h, regular, reduced)
		add(fmt.Sprint("the submodule ", i), sub)
		add(fmt.Sprint("the quotient ", i), quotient)
		if quotient.Dim >= 1 {
			add(fmt.Sprint("the sum ", i), sumModuleByHand(quotient, sub))
		}
	}
	for _, small := range list[1:] {
		if m := small.module; m.Dim > 1 && m.Dim <= 4 {
			add("a tensor product", slantedModule(h, tensorModuleByHand(h, dualModuleByHand(h, m), trivialByHand(h, 2))))
			if m.Dim == 2 {
				add("a tensor square", tensorModuleByHand(h, m, m))
			}
			break
		}
	}
	add("trivial 8", trivialByHand(h, 8))
	return list
}

// moduleSamples returns modules of all Dims, of commutative and cocommutative Hopf algebras and
// others.
func moduleSamples() []moduleSample {
	var list []moduleSample
	for _, s := range moduleHopfs() {
		list = append(list, modulesOf(s)...)
	}
	return list
}

// smallModuleSamples returns modules with few linear maps between them, for small Hopf algebras.
func smallModuleSamples() []moduleSample {
	var list []moduleSample
	for _, s := range []hopfSample{
		{"cyclic 2 for 2", groupHopf(cyclic(2, 2))},
		{"functions on cyclic 2 for 2", dualHopfByHand(groupHopf(cyclic(2, 2)))},
		{"bent", bentHopf()},
		{"the dual of bent", dualHopfByHand(bentHopf())},
		{"dihedral 3 for 2", groupHopf(dihedral(2, 3))},
		{"cyclic 2 for 3", groupHopf(cyclic(3, 2))},
		{"Sweedler's for 3", skewHopf(3, 2, 0)},
		{"the dual of Sweedler's for 3", dualHopfByHand(skewHopf(3, 2, 0))},
		{"the line for 3", lineHopf(3, 0)},
	} {
		for _, m := range modulesOf(s) {
			if power(m.hopf.Prime, m.module.Dim) <= 9 {
				list = append(list, m)
			}
		}
	}
	return list
}

// permutationModule returns the module of the group algebra of dihedral in which r turns n points,
// and s turns them round the point 0.
func permutationModule(n int64) impl.Module {
	m := impl.Module{Dim: n}
	for i := range 2 * n {
		for point := range n {
			image := i + point
			if i >= n {
				image = i - point
			}
			m.Acts[i][point][image%n] = 1
		}
	}
	return m
}

// brokenModule is what is no module of a Hopf algebra.
type brokenModule struct {
	name   string
	hopf   impl.Hopf
	module impl.Module
}

// brokenModules returns structs each of which violates one condition for modules.
func brokenModules() []brokenModule {
	w := skewHopf(3, 2, 0)
	var list []brokenModule
	add := func(name string, change func(m *impl.Module)) {
		// The Dim is 3, so that there is room behind it, and behind the size of w.
		m := sumModuleByHand(impl.Module{Dim: 2, Acts: [8]impl.Linear{
			{{1}, {0, 1}}, {{1}, {0, 2}}, {{0, 1}}, {{0, 2}},
		}}, trivialByHand(w, 1))
		change(&m)
		list = append(list, brokenModule{name, w, m})
	}
	add("zero value", func(m *impl.Module) { *m = impl.Module{} })
	for _, dim := range []int64{-1 << 63, -1, 0, 2, 4, 9, 3 + 256, 3 + 1<<32, 1<<63 - 1} {
		add(fmt.Sprint("Dim ", dim), func(m *impl.Module) { m.Dim = dim })
	}
	for _, i := range []int{0, 1, 3} {
		add(fmt.Sprint("3 in Acts ", i), func(m *impl.Module) { m.Acts[i][1][2] = 3 })
		add(fmt.Sprint("3 more in Acts ", i), func(m *impl.Module) { m.Acts[i][0][0] += 3 })
		add(fmt.Sprint("255 in Acts ", i), func(m *impl.Module) { m.Acts[i][2][0] = 255 })
		add(fmt.Sprint("an entry behind the Dim in Acts ", i), func(m *impl.Module) { m.Acts[i][2][3] = 1 })
		add(fmt.Sprint("an entry at the end in Acts ", i), func(m *impl.Module) { m.Acts[i][0][7] = 1 })
		add(fmt.Sprint("an image behind the Dim in Acts ", i), func(m *impl.Module) { m.Acts[i][3][0] = 1 })
		add(fmt.Sprint("an image at the end in Acts ", i), func(m *impl.Module) { m.Acts[i][7][2] = 1 })
	}
	for i := 4; i < 8; i++ {
		add(fmt.Sprint("Acts behind the size, ", i), func(m *impl.Module) { m.Acts[i][0][0] = 1 })
		add(fmt.Sprint("the identity behind the size, ", i), func(m *impl.Module) { m.Acts[i] = identityByHand(3) })
	}
	add("Acts behind the size at the end", func(m *impl.Module) { m.Acts[7][7][7] = 1 })
	add("the Unit leads all to 0", func(m *impl.Module) { m.Acts = [8]impl.Linear{} })
	add("the Unit leads one to 0", func(m *impl.Module) {
		for i := range m.Acts {
			m.Acts[i][2] = impl.Vector{}
		}
	})
	add("the Unit leads one to another one", func(m *impl.Module) {
		*m = impl.Module{Dim: 2, Acts: [8]impl.Linear{{{1}, {1}}, {{1}, {1}}}}
	})
	add("products of x and x", func(m *impl.Module) { m.Acts[2][1][0] = 1 })
	add("products of g and g", func(m *impl.Module) { m.Acts[1][2][0] = 1 })
	add("products of g and x", func(m *impl.Module) { m.Acts[3][0][1] = 1 })
	return append(list, otherBrokenModules()...)
}

// otherBrokenModules returns more of them, for other Hopf algebras.
func otherBrokenModules() []brokenModule {
	six, eight := groupHopf(dihedral(31, 3)), groupHopf(cyclic(31, 8))
	turned := impl.Module{Dim: 6}
	for i := range six.Size {
		for j := range six.Size {
			turned.Acts[i][j] = six.Mul[j][i]
		}
	}
	last := regularByHand(eight)
	last.Acts[7][7][7] = 1
	behind := trivialByHand(six, 1)
	behind.Acts[6][0][0] = 1
	one := groupHopf(cyclic(2, 1))
	return []brokenModule{
		{"products from the right", six, turned},
		{"one of the last numbers", eight, last},
		{"Acts 6 for size 6", six, behind},
		{"a module of another one", eight, regularByHand(six)},
		{"a module of a greater one", six, regularByHand(eight)},
		{"a module of a greater one, Dim 1", one, impl.Module{Dim: 1, Acts: [8]impl.Linear{{{1}}, {{1}}}}},
		{"0 for size 1", one, impl.Module{Dim: 1}},
		{"2 for size 1", one, impl.Module{Dim: 1, Acts: [8]impl.Linear{{{2}}}}},
		{"Dim 9 for size 1", one, impl.Module{Dim: 9, Acts: trivialByHand(one, 8).Acts}},
		{"entries for a greater prime", groupHopf(cyclic(3, 2)), impl.Module{Dim: 1, Acts: [8]impl.Linear{{{1}}, {{4}}}}},
		{"a root of 1 for another prime", groupHopf(cyclic(3, 3)), impl.Module{Dim: 1, Acts: [8]impl.Linear{{{1}}, {{2}}, {{1}}}}},
	}
}
