package tests

import (
	"fmt"

	"loop.example/g01230/impl"
)

// tableSample is a group table that the tests go through.
type tableSample struct {
	name    string
	table   [][]int64
	abelian bool
	orders  []int64
}

// dihedralRows3 is the dihedral table of 3: three turns, and behind them three reflections.
func dihedralRows3() [][]int64 {
	return [][]int64{
		{0, 1, 2, 3, 4, 5},
		{1, 2, 0, 4, 5, 3},
		{2, 0, 1, 5, 3, 4},
		{3, 5, 4, 0, 2, 1},
		{4, 3, 5, 1, 0, 2},
		{5, 4, 3, 2, 1, 0},
	}
}

// dihedralRows4 is the dihedral table of 4.
func dihedralRows4() [][]int64 {
	return [][]int64{
		{0, 1, 2, 3, 4, 5, 6, 7},
		{1, 2, 3, 0, 5, 6, 7, 4},
		{2, 3, 0, 1, 6, 7, 4, 5},
		{3, 0, 1, 2, 7, 4, 5, 6},
		{4, 7, 6, 5, 0, 3, 2, 1},
		{5, 4, 7, 6, 1, 0, 3, 2},
		{6, 5, 4, 7, 2, 1, 0, 3},
		{7, 6, 5, 4, 3, 2, 1, 0},
	}
}

// quaternionRows is the quaternion table of 1, i, j, k, -1, -i, -j, -k.
func quaternionRows() [][]int64 {
	return [][]int64{
		{0, 1, 2, 3, 4, 5, 6, 7},
		{1, 4, 3, 6, 5, 0, 7, 2},
		{2, 7, 4, 1, 6, 3, 0, 5},
		{3, 2, 5, 4, 7, 6, 1, 0},
		{4, 5, 6, 7, 0, 1, 2, 3},
		{5, 0, 7, 2, 1, 4, 3, 6},
		{6, 3, 0, 5, 2, 7, 4, 1},
		{7, 6, 1, 0, 3, 2, 5, 4},
	}
}

// cyclicRows is the cyclic table of n.
func cyclicRows(n int64) [][]int64 {
	var rows [][]int64
	for i := range n {
		var row []int64
		for j := range n {
			row = append(row, (i+j)%n)
		}
		rows = append(rows, row)
	}
	return rows
}

// tableSamples returns the tables with names.
func tableSamples() []tableSample {
	cyclicOrders := [][]int64{
		{1}, {1, 2}, {1, 3, 3}, {1, 4, 2, 4}, {1, 5, 5, 5, 5}, {1, 6, 3, 2, 3, 6},
		{1, 7, 7, 7, 7, 7, 7}, {1, 8, 4, 8, 2, 8, 4, 8},
	}
	var list []tableSample
	for i, orders := range cyclicOrders {
		list = append(list, tableSample{fmt.Sprint("cyclic", i+1), cyclicRows(int64(i) + 1), true, orders})
	}
	kleinRows := [][]int64{{0, 1, 2, 3}, {1, 0, 3, 2}, {2, 3, 0, 1}, {3, 2, 1, 0}}
	return append(list,
		tableSample{"klein", kleinRows, true, []int64{1, 2, 2, 2}},
		tableSample{"dihedral3", dihedralRows3(), false, []int64{1, 3, 3, 2, 2, 2}},
		tableSample{"dihedral4", dihedralRows4(), false, []int64{1, 4, 2, 4, 2, 2, 2, 2}},
		tableSample{"quaternion", quaternionRows(), false, []int64{1, 4, 4, 4, 2, 4, 4, 4}},
	)
}

// renumbered returns the same group with n - i as number of i, but 0 as that of 0.
func renumbered(s tableSample) tableSample {
	n := int64(len(s.table))
	other := tableSample{"renumbered " + s.name, nil, s.abelian, nil}
	for i := range n {
		var row []int64
		for j := range n {
			row = append(row, (n-s.table[(n-i)%n][(n-j)%n])%n)
		}
		other.table = append(other.table, row)
		other.orders = append(other.orders, s.orders[(n-i)%n])
	}
	return other
}

// groupSamples returns the tables with names, and others.
func groupSamples() []tableSample {
	list := tableSamples()
	for _, s := range tableSamples() {
		list = append(list, renumbered(s))
	}
	return append(list,
		tableSample{"2 by 4", productRows(cyclicRows(2), cyclicRows(4)), true, []int64{1, 4, 2, 4, 2, 4, 2, 4}},
		tableSample{"3 by 2", productRows(cyclicRows(3), cyclicRows(2)), true, []int64{1, 2, 3, 6, 3, 6}},
	)
}

// productRows returns the product of tables, straight from the definition.
func productRows(table, other [][]int64) [][]int64 {
	var rows [][]int64
	for _, first := range table {
		for _, second := range other {
			row := make([]int64, len(table)*len(other))
			for k := range table {
				for l := range other {
					row[len(other)*k+l] = int64(len(other))*first[k] + second[l]
				}
			}
			rows = append(rows, row)
		}
	}
	return rows
}

// isGroupByHand reports whether square rows of numbers in 0..n - 1 are a group table, straight from
// the definition.
func isGroupByHand(table [][]int64) bool {
	for i, row := range table {
		inverses := 0
		for j := range row {
			for k := range table {
				if table[table[i][j]][k] != table[i][table[j][k]] {
					return false
				}
			}
			if table[i][j] == 0 && table[j][i] == 0 {
				inverses++
			}
		}
		if inverses == 0 || table[0][i] != int64(i) || table[i][0] != int64(i) {
			return false
		}
	}
	return true
}

// brokenTable is what is no group table.
type brokenTable struct {
	name  string
	table [][]int64
}

// brokenTables returns rows each of which violates one condition for group tables.
func brokenTables() []brokenTable {
	list := []brokenTable{
		{"none at all", nil},
		{"an empty list", [][]int64{}},
		{"an empty row", [][]int64{{}}},
		{"nil as row", [][]int64{nil}},
		{"nine rows", cyclicRows(9)},
		{"sixteen rows", cyclicRows(16)},
		{"256 rows", cyclicRows(256)},
		{"257 rows", cyclicRows(257)},
		{"nine empty rows", make([][]int64, 9)},
		{"nine rows of eight", append(cyclicRows(8), cyclicRows(8)[0])},
		{"eight rows of nine", cyclicRows(9)[:8]},
		{"one row of two", cyclicRows(2)[:1]},
		{"two rows of one", [][]int64{{0}, {0}}},
		{"two empty rows", [][]int64{{}, {}}},
		{"a short row", [][]int64{{0, 1, 2}, {1, 2}, {2, 0, 1}}},
		{"a long row", [][]int64{{0, 1, 2}, {1, 2, 0, 0}, {2, 0, 1}}},
		{"a long last row", [][]int64{{0, 1, 2}, {1, 2, 0}, {2, 0, 1, 2}}},
		{"a row that is nil", [][]int64{{0, 1, 2}, {1, 2, 0}, nil}},
		{"0 is a unit on the left only", [][]int64{{0, 1}, {0, 1}}},
		{"0 is a unit on the right only", [][]int64{{0, 0}, {1, 1}}},
		{"1 is the unit", [][]int64{{1, 0}, {0, 1}}},
		{"2 is the unit", [][]int64{{1, 2, 0}, {2, 0, 1}, {0, 1, 2}}},
		{"no unit", [][]int64{{0, 0}, {0, 0}}},
		{"0 as product of all", [][]int64{{0, 0, 0}, {0, 0, 0}, {0, 0, 0}}},
		{"not associative", [][]int64{{0, 1, 2}, {1, 0, 1}, {2, 1, 0}}},
		{"a loop of size 5", [][]int64{{0, 1, 2, 3, 4}, {1, 0, 3, 4, 2}, {2, 4, 0, 1, 3}, {3, 2, 4, 0, 1}, {4, 3, 1, 2, 0}}},
		{"no inverse of 1", [][]int64{{0, 1}, {1, 1}}},
		{"no inverse of the last one", [][]int64{{0, 1, 2}, {1, 0, 2}, {2, 2, 2}}},
		{"the maximum of 8 numbers", maximumRows(8)},
	}
	for _, x := range []int64{-1 << 63, -1, 3, 4, 255, 256, 258, 1<<32 + 2, 1<<63 - 1} {
		for _, place := range []int{0, 4, 8} {
			table := cyclicRows(3)
			table[place/3][place%3] = x
			list = append(list, brokenTable{fmt.Sprint("the number ", x, " at ", place), table})
		}
	}
	return append(list, brokenTable{"the number 1 of a size 1", [][]int64{{1}}}, brokenTable{"the number -1 of a size 1", [][]int64{{-1}}})
}

// maximumRows is the monoid of n numbers with the greater one as product.
func maximumRows(n int64) [][]int64 {
	var rows [][]int64
	for i := range n {
		var row []int64
		for j := range n {
			row = append(row, max(i, j))
		}
		rows = append(rows, row)
	}
	return rows
}

// algebraOfTable returns the algebra with the products of a table for the basis.
func algebraOfTable(p int64, table [][]int64) impl.Algebra {
	return algebraOf(p, int64(len(table)), impl.Vector{1}, func(i, j int64) []int64 { return []int64{table[i][j]} })
}

// hasPrime reports whether the known Hopf algebra of a name is there for a prime.
func hasPrime(name string, p int64) bool {
	switch name {
	case "line", "split":
		return p <= 7
	case "sweedler", "double":
		return p > 2
	}
	return true
}

// knownByHand returns what the Hopf algebras with names have to be for a prime, by their names,
// without those that are none for it.
func knownByHand(p int64) map[string]impl.Hopf {
	list := map[string]impl.Hopf{}
	for _, s := range tableSamples() {
		list[s.name] = groupHopf(algebraOfTable(p, s.table))
		list["on-"+s.name] = dualHopfByHand(list[s.name])
	}
	if hasPrime("line", p) {
		list["line"], list["split"] = lineHopf(p, 0), lineHopf(p, 1)
	}
	if hasPrime("double", p) {
		list["sweedler"], list["double"] = skewHopf(p, 2, 0), doubleHopf(p)
	}
	return list
}
