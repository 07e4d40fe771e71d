package tests

import (
	"slices"

	"loop.example/helpersinreach/impl"
)

// field is a grid of w columns and h rows.
type field struct {
	w int
	h int
}

// fieldsUpTo returns all grids of at most side columns and rows, with at most most cells.
func fieldsUpTo(side int, most int) []field {
	fields := []field{}
	for w := 1; w <= side; w++ {
		for h := 1; h <= side && w*h <= most; h++ {
			fields = append(fields, field{w, h})
		}
	}
	return fields
}

// smallFields returns all small grids.
func smallFields() []field {
	return fieldsUpTo(impl.MaxSide, impl.MaxCells)
}

// ringFields returns all grids that are closed.
func ringFields() []field {
	return fieldsUpTo(impl.MaxRing, impl.MaxRing*impl.MaxRing)
}

// besideOpen returns the cells beside a cell, none of them over an end of the grid.
func besideOpen(f field, cell int) []int {
	cells := []int{}
	if cell >= f.w {
		cells = append(cells, cell-f.w)
	}
	if cell < f.w*(f.h-1) {
		cells = append(cells, cell+f.w)
	}
	if cell%f.w > 0 {
		cells = append(cells, cell-1)
	}
	if cell%f.w < f.w-1 {
		cells = append(cells, cell+1)
	}
	return cells
}

// besideClosed returns the cells beside a cell, also those round the ends of the grid.
func besideClosed(f field, cell int) []int {
	first := cell / f.w * f.w
	all := f.w * f.h
	return []int{(cell + f.w) % all, (cell + all - f.w) % all, first + (cell-first+1)%f.w, first + (cell-first+f.w-1)%f.w}
}

// stepsFrom returns how many steps it is from a cell to each one, from those beside it on to all.
func stepsFrom(f field, start int, beside func(field, int) []int) []int {
	steps := slices.Repeat([]int{-1}, f.w*f.h)
	steps[start] = 0
	reached := []int{start}
	for next := 0; next < len(reached); next++ {
		for _, cell := range beside(f, reached[next]) {
			if steps[cell] == -1 {
				steps[cell] = steps[reached[next]] + 1
				reached = append(reached, cell)
			}
		}
	}
	return steps
}

// stepTable returns how many steps it is from each cell to each one.
func stepTable(f field, beside func(field, int) []int) [][]int {
	table := [][]int{}
	for cell := range f.w * f.h {
		table = append(table, stepsFrom(f, cell, beside))
	}
	return table
}

// cellsWithin returns the cells, ascending, to which it is at most far steps, of a row of a table.
func cellsWithin(row []int, far int) []int {
	cells := []int{}
	for cell, steps := range row {
		if steps <= far {
			cells = append(cells, cell)
		}
	}
	return cells
}

// isPerfectByTable reports whether each cell of a table has exactly one of a list that is at most far steps from it.
func isPerfectByTable(table [][]int, list []int, far int) bool {
	for _, row := range table {
		near := 0
		for _, cell := range list {
			if row[cell] <= far {
				near++
			}
		}
		if near != 1 {
			return false
		}
	}
	return true
}

// exchanged returns a grid with columns and rows exchanged.
func (f field) exchanged() field {
	return field{f.h, f.w}
}

// cellsMoved returns the cells, ascending, to which those of a list come where a function tells the column and the row to which they go.
func cellsMoved(f field, list []int, to func(column int, row int) (int, int)) []int {
	moved := []int{}
	for _, cell := range list {
		column, row := to(cell%f.w, cell/f.w)
		moved = append(moved, row%f.h*f.w+column%f.w)
	}
	slices.Sort(moved)
	return moved
}

// movedByColumn returns cells that are moved by one column, round the end.
func movedByColumn(f field, list []int) []int {
	return cellsMoved(f, list, func(column int, row int) (int, int) { return column + 1, row })
}

// movedByRow returns cells that are moved by one row, round the end.
func movedByRow(f field, list []int) []int {
	return cellsMoved(f, list, func(column int, row int) (int, int) { return column, row + 1 })
}

// slantByRows returns the cells with a rest, going along each row: from one row to the next one the rest of the columns is two less.
func slantByRows(f field, at int) []int {
	cells := []int{}
	for row := range f.h {
		// The rest of twice the row goes 0, 2, 4, 1, 3, and so on.
		rest := []int{0, 2, 4, 1, 3}[row%5]
		for column := range f.w {
			if column%5 == (at+5-rest)%5 {
				cells = append(cells, row*f.w+column)
			}
		}
	}
	return cells
}

// netOfField returns the cells of a grid as nodes, with a street between each two beside each other.
func netOfField(f field) net {
	a := net{n: f.w * f.h}
	for cell := range a.n {
		for _, beside := range besideOpen(f, cell) {
			if beside > cell {
				a.list = append(a.list, impl.Street{From: cell, To: beside, Long: 1})
			}
		}
	}
	return a
}

// plan is a closed grid with a list of cells.
type plan struct {
	f    field
	list []int
}

// allPlans returns all lists of cells of all closed grids of at most most cells.
func allPlans(most int) []plan {
	plans := []plan{}
	for _, f := range fieldsUpTo(impl.MaxRing, most) {
		for set := range 1 << (f.w * f.h) {
			plans = append(plans, plan{f, listOfSet(set, f.w*f.h)})
		}
	}
	return plans
}

// wovenPlans returns lists of slanting cells of all closed grids, slanting to the one side and to the other, each also with a cell more,
// a cell fewer, and one moved; and none, all cells, and each second one, each third one, and so on.
func wovenPlans() []plan {
	plans := []plan{}
	for _, f := range ringFields() {
		cells := f.w * f.h
		plans = append(plans, plan{f, nil}, plan{f, placesUpTo(cells - 1)})
		for at := range 5 {
			slant := slantByRows(f, at)
			mirror := cellsMoved(f, slant, func(column int, row int) (int, int) { return f.w - 1 - column, row })
			plans = append(plans, plan{f, slant}, plan{f, mirror})
			plans = append(plans, spoiled(f, slant, at)...)
		}
		for between := 1; between <= impl.MaxRing; between++ {
			list := []int{}
			for cell := 0; cell < cells; cell += between {
				list = append(list, cell)
			}
			plans = append(plans, plan{f, list})
		}
	}
	return plans
}

// spoiled returns a list of cells without one of them, with one more, and with one in another place, as far as this makes another list.
func spoiled(f field, list []int, seed int) []plan {
	plans := []plan{}
	if len(list) == 0 {
		return plans
	}
	at := mixed(seed, f.w*11+f.h, len(list))
	other := mixed(seed, f.w*13+f.h, f.w*f.h)
	fewer := slices.Delete(slices.Clone(list), at, at+1)
	for _, cells := range [][]int{fewer, append(slices.Clone(list), other), append(slices.Clone(fewer), other)} {
		slices.Sort(cells)
		cells = slices.Compact(cells)
		if !slices.Equal(cells, list) {
			plans = append(plans, plan{f, cells})
		}
	}
	return plans
}

// fiveOf25 returns all lists of five cells of the closed grid of five columns and five rows.
func fiveOf25() []plan {
	plans := []plan{}
	var goOn func(list []int, from int)
	goOn = func(list []int, from int) {
		if len(list) == 5 {
			plans = append(plans, plan{field{5, 5}, slices.Clone(list)})
			return
		}
		for cell := from; cell < 25; cell++ {
			goOn(append(list, cell), cell+1)
		}
	}
	goOn(nil, 0)
	return plans
}
