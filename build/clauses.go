package build

import (
	"cmp"
	"slices"

	"strata/api"
)

// clauses are not true where all literals of one of them are not: where one of the cubes of their opposites is.
func (s *site) clauses(c api.Cnf, at []int) part {
	var cubes [][]api.Lit
	from := 0
	for _, end := range c.Ends {
		if cube, can := opposites(c.Lits[from:end], at); can {
			cubes = append(cubes, cube)
		}
		from = end
	}
	// Those over like levels are joined first: what comes of them is small.
	slices.SortFunc(cubes, func(a, b []api.Lit) int { return slices.CompareFunc(a, b, compareLits) })
	cubes = slices.CompactFunc(cubes, slices.Equal)
	var parts []part
	for _, cube := range cubes {
		parts = append(parts, s.cube(cube...))
	}
	return s.not(s.join(api.OpOr, parts...))
}

// opposites is the cube of the opposites of literals, by level; false if there is none: two of them are each other's opposite.
func opposites(lits []int, at []int) ([]api.Lit, bool) {
	cube := make([]api.Lit, 0, len(lits))
	for _, lit := range lits {
		v := max(lit, -lit) - 1
		cube = append(cube, api.Lit{Level: at[v], Value: lit < 0})
	}
	slices.SortFunc(cube, compareLits)
	cube = slices.Compact(cube)
	for i := range cube {
		if i > 0 && cube[i].Level == cube[i-1].Level {
			return nil, false
		}
	}
	return cube, true
}

func compareLits(a, b api.Lit) int {
	if a.Level == b.Level && a.Value != b.Value {
		if a.Value {
			return 1
		}
		return -1
	}
	return cmp.Compare(a.Level, b.Level)
}
