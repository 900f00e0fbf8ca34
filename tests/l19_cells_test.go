package tests

import (
	"math"
	"slices"
	"testing"

	"loop.example/softwareradio/impl"
)

// mixedStrengths are in least..most.
func mixedStrengths(seed int, count int, least int, most int) []int {
	strengths := make([]int, count)
	for cell := range strengths {
		strengths[cell] = least + int(mixed(seed, cell)%uint64(most-least+1))
	}
	return strengths
}

func mixedRows(seed int, length int, count int, least int, most int) [][]int {
	rows := make([][]int, length)
	for k := range rows {
		rows[k] = mixedStrengths(1000*seed+k, count, least, most)
	}
	return rows
}

// walkedRows begin with mixed strengths, which change by at most a step from row to row, as a moving station's do.
func walkedRows(seed int, length int, count int, step int) [][]int {
	rows := mixedRows(seed, length, count, 0, 200)
	for k := 1; k < length; k++ {
		for cell, strength := range rows[k] {
			rows[k][cell] = nearestInRange(rows[k-1][cell]+strength%(2*step+1)-step, 0, 200)
		}
	}
	return rows
}

// cellMargins are the bounds, their neighbours and some between.
func cellMargins() []int {
	return []int{0, 1, 2, 3, 4, 5, 7, 10, 16, 31, 50, 64, 99, 100, 101, 127, 128, 150, 198, 199, 200}
}

// eachStrengths calls a test with all lists of one to five strengths on and next to a bound or both, of one to six that are 0 or 1, and with longer ones: equal strengths, ascending and descending ones, and mixed ones with few levels and with many.
func eachStrengths(test func(strengths []int)) {
	for _, strengths := range listsOf([]int{0, 1, 2, 199, 200}, 5)[1:] {
		test(strengths)
	}
	for _, strengths := range listsOf([]int{0, 1}, 6)[1:] {
		test(strengths)
	}
	for count := 6; count <= 8; count++ {
		for _, strength := range []int{0, 1, 100, 199, 200} {
			test(repeated(strength, count))
		}
		test(times(places(count), 25))
		test(reversed(times(places(count), 25)))
		for seed := range 40 {
			test(mixedStrengths(seed, count, 0, 200))
			test(mixedStrengths(seed, count, 0, 2))
			test(mixedStrengths(seed, count, 198, 200))
			test(mixedStrengths(seed, count, 95, 105))
		}
	}
}

// eachTrace calls a test with all lists of up to three rows of one and of two cells with few strengths, and with longer ones of all numbers of cells.
func eachTrace(test func(rows [][]int)) {
	for _, count := range []int{1, 2} {
		for _, numbers := range listsOf([]int{0, 1, 3, 200}, 3*count) {
			if len(numbers)%count == 0 {
				test(slices.Collect(slices.Chunk(numbers, count)))
			}
		}
	}
	for count := 1; count <= 8; count++ {
		for seed, length := range []int{1, 2, 3, 4, 5, 10, 33, 64, 100, 199, 200} {
			test(mixedRows(seed, length, count, 0, 200))
			test(mixedRows(seed, length, count, 0, 3))
			test(mixedRows(seed, length, count, 190, 200))
			test(walkedRows(seed, length, count, 5))
			test(walkedRows(seed, length, count, 30))
		}
	}
}

// modelStrongest looks at the cells from the last one down to the first one.
func modelStrongest(strengths []int) int {
	strongest := len(strengths) - 1
	for cell := strongest - 1; cell >= 0; cell-- {
		if strengths[cell] >= strengths[strongest] {
			strongest = cell
		}
	}
	return strongest
}

// modelServe takes the margin, and one more, from the strongest cell.
func modelServe(current int, strengths []int, margin int) int {
	strongest := modelStrongest(strengths)
	if current == -1 || strengths[strongest]-margin-1 >= strengths[current] {
		return strongest
	}
	return current
}

func modelTrace(rows [][]int, margin int) []int {
	cells := []int{-1}
	for _, row := range rows {
		cells = append(cells, modelServe(cells[len(cells)-1], row, margin))
	}
	return cells[1:]
}

// modelHandovers is one less than the number of runs of equal numbers.
func modelHandovers(list []int) int {
	return max(len(slices.Compact(slices.Clone(list)))-1, 0)
}

func wantServe(t *testing.T, current int, strengths []int, margin int, want int) {
	t.Helper()
	if cell := impl.ServeCell(current, strengths, margin); cell != want {
		t.Fatalf("with the strengths %v and the margin %d, cell %d is followed by %d, want %d", strengths, margin, current, cell, want)
	}
}

func wantTrace(t *testing.T, rows [][]int, margin int, want ...int) {
	t.Helper()
	if cells := impl.ServeTrace(rows, margin); !slices.Equal(cells, want) {
		t.Fatalf("with the margin %d, the cells for %v are %v, want %v", margin, rows, cells, want)
	}
}

func wantHandovers(t *testing.T, list []int, want int) {
	t.Helper()
	if count := impl.CountHandovers(list); count != want {
		t.Fatalf("%v has %d handovers, want %d", list, count, want)
	}
}

// wantRefusedStrengths tries the current cells in and next to a list with several margins, and the list among rows.
func wantRefusedStrengths(t *testing.T, strengths []int) {
	t.Helper()
	for _, margin := range []int{0, 1, 100, 199, 200, -1, 201} {
		for _, current := range []int{-2, -1, 0, 1, len(strengths) / 2, len(strengths) - 1, len(strengths), 7, 8} {
			wantServe(t, current, strengths, margin, -1)
		}
		wantTrace(t, [][]int{strengths}, margin)
		wantTrace(t, [][]int{strengths, strengths, strengths}, margin)
	}
}

// wantRefusedTrace tries several margins.
func wantRefusedTrace(t *testing.T, rows [][]int) {
	t.Helper()
	for _, margin := range []int{0, 1, 100, 199, 200, -1, 201} {
		if cells := impl.ServeTrace(rows, margin); len(cells) != 0 {
			t.Fatalf("with the margin %d, there are cells for %v: %v", margin, rows, cells)
		}
	}
}

func TestCellConstants(t *testing.T) {
	if impl.MaxCells != 8 || impl.MaxStrength != 200 {
		t.Fatalf("there are at most %d cells with strengths of at most %d", impl.MaxCells, impl.MaxStrength)
	}
}

func TestServeExamples(t *testing.T) {
	strengths := []int{50, 70, 60, 70}
	wantServe(t, -1, strengths, 0, 1)
	wantServe(t, -1, strengths, 200, 1)
	wantServe(t, 0, strengths, 19, 1)
	wantServe(t, 0, strengths, 20, 0)
	wantServe(t, 0, strengths, 21, 0)
	wantServe(t, 2, strengths, 9, 1)
	wantServe(t, 2, strengths, 10, 2)
	wantServe(t, 1, strengths, 0, 1)
	// Another cell that is as strong, but has a lower number, does not take the place of the current one.
	wantServe(t, 3, strengths, 0, 3)
	wantServe(t, 1, []int{0, 200}, 200, 1)
	wantServe(t, 0, []int{0, 200}, 200, 0)
	wantServe(t, 0, []int{0, 200}, 199, 1)
	wantServe(t, 4, strengths, 0, -1)
	wantServe(t, -2, strengths, 0, -1)
}

func TestTraceExamples(t *testing.T) {
	// The second cell takes over when it is stronger by 4, and the first one as soon as it is stronger by 4 again.
	rows := [][]int{{9, 5}, {8, 8}, {7, 9}, {6, 9}, {6, 10}, {9, 9}, {12, 9}, {13, 9}, {13, 17}}
	wantTrace(t, rows, 3, 0, 0, 0, 0, 1, 1, 1, 0, 1)
	wantTrace(t, rows, 4, 0, 0, 0, 0, 0, 0, 0, 0, 0)
	wantTrace(t, rows, 2, 0, 0, 0, 1, 1, 1, 0, 0, 1)
	wantTrace(t, rows, 0, 0, 0, 1, 1, 1, 1, 0, 0, 1)
	wantHandovers(t, impl.ServeTrace(rows, 3), 3)
	wantTrace(t, [][]int{{3, 8, 8}}, 5, 1)
	wantTrace(t, [][]int{{3, 8, 8}, {3, 8, 9}, {9, 0, 9}, {0, 9, 9}}, 0, 1, 2, 2, 2)
	wantTrace(t, [][]int{{3, 8, 8}, {3, 8, 9}, {9, 0, 9}, {0, 9, 9}}, 1, 1, 1, 0, 1)
	wantTrace(t, [][]int{{0}, {200}, {0}}, 0, 0, 0, 0)
	wantTrace(t, nil, 0)
}

func TestOneCell(t *testing.T) {
	for strength := range 201 {
		for margin := range 201 {
			wantServe(t, -1, []int{strength}, margin, 0)
			wantServe(t, 0, []int{strength}, margin, 0)
		}
		wantTrace(t, [][]int{{strength}}, strength, 0)
		wantTrace(t, [][]int{{strength}, {200 - strength}, {0}, {200}, {strength}}, 0, 0, 0, 0, 0, 0)
	}
	for _, current := range outside(-1, 0) {
		wantServe(t, current, []int{100}, 0, -1)
	}
}

// All strengths of two cells, of which the first, the second one or none is the current one, with all margins.
func TestTwoCells(t *testing.T) {
	for a := range 201 {
		for b := range 201 {
			strengths := []int{a, b}
			first := 0
			if b > a {
				first = 1
			}
			for margin := range 201 {
				wantServe(t, -1, strengths, margin, first)
				if b-a > margin {
					wantServe(t, 0, strengths, margin, 1)
				} else {
					wantServe(t, 0, strengths, margin, 0)
				}
				if a-b > margin {
					wantServe(t, 1, strengths, margin, 0)
				} else {
					wantServe(t, 1, strengths, margin, 1)
				}
			}
		}
	}
}

// The strength of one cell is greater than that of the current one by the margin, by one less and by one more; both are at all places, and the others are as strong as the current one, or weaker.
func TestStrengthsAtTheMargin(t *testing.T) {
	for count := 2; count <= 8; count++ {
		for current := range count {
			for better := range count {
				if better == current {
					continue
				}
				for margin := range 201 {
					for _, strength := range []int{0, 1, (200 - margin) / 2, max(199-margin, 0), 200 - margin} {
						for _, other := range []int{0, max(strength-1, 0), strength} {
							wantAtMargin(t, changed(repeated(other, count), current, strength), current, better, margin)
						}
					}
				}
			}
		}
	}
}

// wantAtMargin leaves out strengths that are out of range.
func wantAtMargin(t *testing.T, strengths []int, current int, better int, margin int) {
	t.Helper()
	limit := strengths[current] + margin
	for _, strength := range []int{limit - 1, limit, limit + 1} {
		if strength < 0 || strength > 200 {
			continue
		}
		want := current
		if strength > limit {
			want = better
		}
		wantServe(t, current, changed(strengths, better, strength), margin, want)
	}
}

// Several cells are the strongest ones, in all ways: the first of them is taken, unless the current cell is one of them or not weak enough.
func TestSeveralStrongestCells(t *testing.T) {
	for count := 1; count <= 8; count++ {
		for set := 1; set < 1<<count; set++ {
			strengths, first := repeated(90, count), -1
			for cell := range count {
				if set>>cell&1 == 1 {
					strengths[cell] = 100
					if first < 0 {
						first = cell
					}
				}
			}
			for _, margin := range []int{0, 1, 8, 9, 10, 11, 100, 199, 200} {
				wantServe(t, -1, strengths, margin, first)
				for current := range count {
					want := current
					if set>>current&1 == 0 && margin < 10 {
						want = first
					}
					wantServe(t, current, strengths, margin, want)
				}
			}
		}
	}
}

func TestServeLikeModel(t *testing.T) {
	eachStrengths(func(strengths []int) {
		for _, margin := range cellMargins() {
			for current := -1; current < len(strengths); current++ {
				wantServe(t, current, strengths, margin, modelServe(current, strengths, margin))
			}
		}
	})
	for seed := range 20000 {
		strengths := mixedStrengths(seed, 1+seed%8, 0, 200)
		for current := -1; current < len(strengths); current++ {
			// The margin is the one at which the strongest cell takes over, one of its neighbours, or another one.
			margin := int(mixed(seed, 100) % 201)
			if current >= 0 && seed%4 > 0 {
				margin = nearestInRange(slices.Max(strengths)-strengths[current]+seed%4-2, 0, 200)
			}
			wantServe(t, current, strengths, margin, modelServe(current, strengths, margin))
		}
	}
}

// Promise 92: the next cell is the current one or a strongest one.
func TestNextCellIsCurrentOrStrongest(t *testing.T) {
	eachStrengths(func(strengths []int) {
		strongest := slices.Max(strengths)
		for _, margin := range cellMargins() {
			for current := -1; current < len(strengths); current++ {
				next := impl.ServeCell(current, strengths, margin)
				if next < 0 || next >= len(strengths) || next != current && strengths[next] != strongest {
					t.Fatalf("with the strengths %v and the margin %d, cell %d is followed by %d", strengths, margin, current, next)
				}
				if next != current && slices.Contains(strengths[:next], strongest) {
					t.Fatalf("with the strengths %v and the margin %d, cell %d is followed by %d, which is not the first one", strengths, margin, current, next)
				}
			}
		}
	})
}

// Promise 92: with a larger margin a change never happens where it does not with a smaller one.
func TestMarginsKeepCells(t *testing.T) {
	changes, kept := 0, 0
	check := func(strengths []int) {
		for current := range strengths {
			least := 0
			for least <= 200 && impl.ServeCell(current, strengths, least) != current {
				least++
			}
			for margin := least; margin <= 200; margin++ {
				wantServe(t, current, strengths, margin, current)
			}
			if least != slices.Max(strengths)-strengths[current] {
				t.Fatalf("with the strengths %v, cell %d stays from the margin %d on", strengths, current, least)
			}
			if least > 0 {
				changes++
			} else {
				kept++
			}
		}
	}
	for _, strengths := range listsOf([]int{0, 1, 2, 100, 199, 200}, 3)[1:] {
		check(strengths)
	}
	for seed := range 400 {
		for _, bounds := range [][2]int{{0, 200}, {0, 3}, {197, 200}, {90, 110}} {
			check(mixedStrengths(seed, 1+seed%8, bounds[0], bounds[1]))
		}
	}
	if changes < 1000 || kept < 1000 {
		t.Fatal(changes, "cells are left,", kept, "are kept with every margin")
	}
}

// Without a current cell the margin does not matter, as long as it is valid.
func TestFirstCellForAllMargins(t *testing.T) {
	for seed := range 100 {
		strengths := mixedStrengths(seed, 1+seed%8, 0, 1+2*seed)
		for margin := range 201 {
			wantServe(t, -1, strengths, margin, modelStrongest(strengths))
		}
	}
	for count := 1; count <= 8; count++ {
		for _, strength := range []int{0, 1, 100, 200} {
			wantServe(t, -1, repeated(strength, count), 0, 0)
			wantServe(t, -1, repeated(strength, count), 200, 0)
			for cell := range count {
				wantServe(t, -1, changed(repeated(0, count), cell, max(strength, 1)), 200, cell)
			}
		}
	}
}

func TestTracesLikeModel(t *testing.T) {
	left, again := 0, 0
	eachTrace(func(rows [][]int) {
		for _, margin := range []int{0, 1, 2, 3, 10, 30, 100, 197, 198, 199, 200} {
			want := modelTrace(rows, margin)
			wantTrace(t, rows, margin, want...)
			for k := 1; k < len(want); k++ {
				if want[k] != want[k-1] {
					left++
					if slices.Contains(want[:k-1], want[k]) {
						again++
					}
				}
			}
		}
	})
	if left < 1000 || again < 1000 {
		t.Fatal(left, "cells are left,", again, "are taken again")
	}
}

// Promise 93: there is one cell per row; the first one is a strongest one; every other one is the decision after the one before it.
func TestTracesAreRepeatedDecisions(t *testing.T) {
	eachTrace(func(rows [][]int) {
		for _, margin := range []int{0, 1, 2, 5, 20, 199, 200} {
			cells := impl.ServeTrace(rows, margin)
			if len(cells) != len(rows) {
				t.Fatalf("there are %d cells for %d rows", len(cells), len(rows))
			}
			current := -1
			for k, row := range rows {
				if next := impl.ServeCell(current, row, margin); cells[k] != next {
					t.Fatalf("with the margin %d, the cells for %v are %v; %d is followed by %d", margin, rows, cells, current, next)
				}
				current = cells[k]
			}
			if len(rows) > 0 && rows[0][cells[0]] != slices.Max(rows[0]) {
				t.Fatalf("the first cell is %d, with the strengths %v", cells[0], rows[0])
			}
		}
	})
}

// Promise 93: with the largest margin the cell never changes.
func TestLargestMarginKeepsTheFirstCell(t *testing.T) {
	eachTrace(func(rows [][]int) {
		if len(rows) > 0 {
			wantTrace(t, rows, 200, repeated(modelStrongest(rows[0]), len(rows))...)
			wantHandovers(t, impl.ServeTrace(rows, 200), 0)
		}
	})
	wantTrace(t, [][]int{{0, 200}, {200, 0}, {200, 0}}, 200, 1, 1, 1)
	wantTrace(t, [][]int{{0, 200}, {200, 0}, {0, 200}}, 199, 1, 0, 1)
	wantTrace(t, [][]int{{0, 0}, {0, 200}}, 200, 0, 0)
	wantTrace(t, [][]int{{0, 0}, {0, 200}}, 199, 0, 1)
}

// The cells of the first rows do not depend on the rows behind them.
func TestTracesBeginEqually(t *testing.T) {
	for count := 1; count <= 8; count++ {
		for _, rows := range [][][]int{mixedRows(count, 200, count, 0, 200), walkedRows(count, 200, count, 20)} {
			for _, margin := range []int{0, 5, 50} {
				cells := impl.ServeTrace(rows, margin)
				for length := range 201 {
					wantTrace(t, rows[:length], margin, cells[:length]...)
				}
			}
		}
	}
}

// Every cell is left for the next one, and at last for the first one again.
func TestCellsInTurn(t *testing.T) {
	for count := 1; count <= 8; count++ {
		for _, margin := range []int{0, 1, 50, 198, 199} {
			var rows [][]int
			var want []int
			for k := range 200 {
				rows = append(rows, changed(repeated(199-margin, count), k%count, 200))
				want = append(want, k%count)
			}
			wantTrace(t, rows, margin, want...)
			wantTrace(t, rows, margin+1, repeated(0, 200)...)
			wantHandovers(t, want, 199*min(count-1, 1))
			slices.Reverse(rows)
			wantTrace(t, rows, margin, reversed(want)...)
		}
	}
}

func TestNoRowsAndManyRows(t *testing.T) {
	for _, margin := range cellMargins() {
		for _, none := range [][][]int{nil, {}, make([][]int, 0, 5)} {
			wantTrace(t, none, margin)
		}
		for count := 1; count <= 8; count++ {
			row := changed(repeated(0, count), count-1, 200)
			for _, length := range []int{1, 2, 3, 50, 199, 200} {
				wantTrace(t, slices.Repeat([][]int{row}, length), margin, repeated(count-1, length)...)
			}
		}
	}
	for count := 1; count <= 8; count++ {
		row := changed(repeated(0, count), count-1, 200)
		for _, length := range []int{201, 202, 203, 255, 256, 257, 400, 456, 512, 1 << 16, 1<<16 + 1} {
			wantRefusedTrace(t, slices.Repeat([][]int{row}, length))
		}
	}
}

// An empty list has neither cells nor a strongest one.
func TestNoCells(t *testing.T) {
	for _, none := range [][]int{nil, {}, make([]int, 0, 5)} {
		wantRefusedStrengths(t, none)
		for length := 1; length <= 201; length++ {
			wantRefusedTrace(t, slices.Repeat([][]int{none}, length))
		}
	}
}

func TestTooManyCells(t *testing.T) {
	for _, count := range []int{9, 10, 11, 15, 16, 17, 64, 200, 201, 256, 257, 264, 1<<16 + 3} {
		wantRefusedStrengths(t, repeated(0, count))
		wantRefusedStrengths(t, repeated(200, count))
		wantRefusedStrengths(t, changed(repeated(0, count), count-1, 200))
		wantRefusedStrengths(t, changed(repeated(0, count), 3, 200))
	}
}

// Every place has the bounds, which are valid, and numbers next to them and far from them, which are not.
func TestStrengthsOutOfRange(t *testing.T) {
	for count := 1; count <= 8; count++ {
		for _, strengths := range [][]int{repeated(0, count), repeated(200, count), mixedStrengths(count, count, 0, 200)} {
			for cell := range count {
				for _, strength := range []int{0, 1, 199, 200} {
					valid := changed(strengths, cell, strength)
					wantServe(t, -1, valid, 0, modelStrongest(valid))
					wantTrace(t, [][]int{valid}, 0, modelStrongest(valid))
				}
				wantRefusedStrengths(t, changed(strengths, cell, -1))
				wantRefusedStrengths(t, changed(strengths, cell, 201))
				for _, strength := range outside(0, 200) {
					for current := -1; current < count; current++ {
						wantServe(t, current, changed(strengths, cell, strength), 100, -1)
					}
					wantTrace(t, [][]int{changed(strengths, cell, strength)}, 100)
				}
			}
		}
		for _, strength := range outside(0, 200) {
			wantRefusedStrengths(t, repeated(strength, count))
		}
	}
}

// A margin is refused also where it does not matter: without a current cell, with one cell, and if the current cell is the strongest one.
func TestMarginsOutOfRange(t *testing.T) {
	for count := 1; count <= 8; count++ {
		for _, strengths := range [][]int{repeated(0, count), repeated(200, count), changed(repeated(0, count), count-1, 200), mixedStrengths(count, count, 0, 200)} {
			for _, margin := range outside(0, 200) {
				for current := -1; current < count; current++ {
					wantServe(t, current, strengths, margin, -1)
				}
				wantTrace(t, [][]int{strengths}, margin)
				wantTrace(t, [][]int{strengths, strengths, strengths}, margin)
			}
		}
	}
	for _, margin := range outside(0, 200) {
		wantTrace(t, nil, margin)
	}
	for margin := 201; margin < 2000; margin++ {
		wantServe(t, 0, []int{0, 200}, margin, -1)
		wantServe(t, 0, []int{0, 200}, 200-margin, -1)
	}
}

func TestOtherCurrentCells(t *testing.T) {
	for count := 1; count <= 8; count++ {
		for _, strengths := range [][]int{repeated(0, count), repeated(200, count), mixedStrengths(count, count, 0, 200)} {
			for _, margin := range []int{0, 1, 100, 200, -1, 201} {
				wantServe(t, -2, strengths, margin, -1)
				wantServe(t, count, strengths, margin, -1)
				for _, current := range outside(-1, count-1) {
					wantServe(t, current, strengths, margin, -1)
				}
			}
			for current := range count {
				wantServe(t, current, strengths, 200, current)
			}
		}
	}
}

// rowsWithOneOther have another row at the first, at the last and at some middle places.
func rowsWithOneOther(length int, row []int, other []int) [][][]int {
	var lists [][][]int
	for _, place := range []int{0, 1, length / 2, length - 2, length - 1} {
		if place >= 0 && place < length {
			rows := slices.Repeat([][]int{row}, length)
			rows[place] = other
			lists = append(lists, rows)
		}
	}
	return lists
}

// One row is shorter or longer than the others, which have the same number of cells.
func TestRowsWithOtherNumbersOfCells(t *testing.T) {
	for count := 1; count <= 8; count++ {
		row := mixedStrengths(count, count, 0, 200)
		for _, length := range []int{2, 3, 4, 5, 50, 199, 200, 201} {
			for _, other := range []int{0, 1, 2, 3, 4, 5, 6, 7, 8, 9, 10, 16, 256 + count} {
				if other == count {
					continue
				}
				for _, rows := range rowsWithOneOther(length, row, mixedStrengths(other, other, 0, 200)) {
					wantRefusedTrace(t, rows)
				}
			}
		}
	}
	// Some rows are shorter and some longer, or each has one cell more than the one before.
	wantRefusedTrace(t, [][]int{{1, 2}, {1}, {1, 2, 3}})
	wantRefusedTrace(t, [][]int{{1}, {1, 2}, {1, 2, 3}, {1, 2, 3, 4}})
	wantRefusedTrace(t, [][]int{{1, 2, 3}, {1, 2}, {1}})
	wantRefusedTrace(t, [][]int{{1, 2}, {1, 2}, {1, 2, 3}, {1, 2, 3}})
}

// One row has a strength out of range, at any place.
func TestOneInvalidRow(t *testing.T) {
	for count := 1; count <= 8; count++ {
		row := mixedStrengths(count, count, 0, 200)
		for _, length := range []int{1, 2, 3, 4, 5, 50, 199, 200} {
			for cell := range count {
				for _, strength := range []int{-1, 201, -200, 256, 1 << 32, math.MinInt, math.MaxInt} {
					for _, rows := range rowsWithOneOther(length, row, changed(row, cell, strength)) {
						wantRefusedTrace(t, rows)
					}
				}
				for _, rows := range rowsWithOneOther(length, row, changed(row, cell, 200)) {
					wantTrace(t, rows, 0, modelTrace(rows, 0)...)
				}
			}
		}
	}
	for place := range 200 {
		wantTrace(t, changed(slices.Repeat([][]int{{5, 6}}, 200), place, []int{5, -1}), 0)
		wantTrace(t, changed(slices.Repeat([][]int{{5, 6}}, 200), place, []int{201, 6}), 0)
		wantTrace(t, changed(slices.Repeat([][]int{{5, 6}}, 200), place, []int{5}), 0)
		wantTrace(t, changed(slices.Repeat([][]int{{5, 6}}, 200), place, []int{5, 6, 7}), 0)
		wantTrace(t, changed(slices.Repeat([][]int{{5, 6}}, 200), place, nil), 0)
	}
}

func TestHandoverExamples(t *testing.T) {
	wantHandovers(t, nil, 0)
	wantHandovers(t, []int{}, 0)
	wantHandovers(t, []int{0}, 0)
	wantHandovers(t, []int{7}, 0)
	wantHandovers(t, []int{7, 7}, 0)
	wantHandovers(t, []int{7, 8}, 1)
	wantHandovers(t, []int{8, 7}, 1)
	wantHandovers(t, []int{1, 2, 1}, 2)
	wantHandovers(t, []int{1, 1, 2, 2, 2, 1, 1}, 2)
	wantHandovers(t, []int{-1, 0, 0, 1, -1}, 3)
	wantHandovers(t, []int{math.MinInt, math.MaxInt, math.MinInt}, 2)
	wantHandovers(t, []int{math.MinInt, 0, math.MinInt, math.MinInt}, 2)
	wantHandovers(t, []int{0, 1 << 8, 1 << 16, 1 << 32, 1 << 62, 0}, 5)
}

// Promise 94: the number does not depend on the direction, is less than the number of numbers if there are any, and 0 for equal numbers.
func wantCounted(t *testing.T, list []int) {
	t.Helper()
	count := impl.CountHandovers(list)
	wantHandovers(t, list, modelHandovers(list))
	wantHandovers(t, reversed(list), count)
	if count < 0 || len(list) > 0 && count >= len(list) {
		t.Fatalf("%v has %d handovers", list, count)
	}
	wantHandovers(t, repeated(len(list), len(list)), 0)
}

// Promise 94, with all lists of up to seven numbers of three.
func TestChangesAreCounted(t *testing.T) {
	for _, numbers := range [][]int{{-1, 0, 1}, {0, 1, 256}, {math.MinInt, 0, math.MaxInt}} {
		for _, list := range listsOf(numbers, 7) {
			wantCounted(t, list)
		}
	}
	for _, list := range listsOf([]int{0, 1, 2, 3, 4}, 5) {
		wantCounted(t, list)
	}
}

// Promise 94, with lists of any length, which is not bounded.
func TestChangesInLongLists(t *testing.T) {
	for seed, length := range []int{0, 1, 2, 3, 8, 9, 63, 64, 65, 199, 200, 201, 255, 256, 257, 1023, 1024, 1025, 65535, 65536, 65537, 100000} {
		for _, level := range []int{0, 1, 3, 200} {
			wantCounted(t, mixedNumbers(seed, length, level))
		}
		wantHandovers(t, repeated(seed, length), 0)
		// All numbers differ from the previous one: they ascend, descend or alternate.
		wantHandovers(t, places(length), max(length-1, 0))
		wantHandovers(t, reversed(places(length)), max(length-1, 0))
		wantHandovers(t, slices.Repeat([]int{5, 6}, length), max(2*length-1, 0))
		wantHandovers(t, slices.Repeat([]int{0, 1 << 32}, length), max(2*length-1, 0))
	}
}

// The only change is at each place of lists of some lengths, or one number is another one.
func TestSingleChanges(t *testing.T) {
	for length := 1; length <= 70; length++ {
		for place := range length {
			list := slices.Concat(repeated(3, place), repeated(4, length-place))
			wantHandovers(t, list, min(place, 1))
			want := 2
			if place == 0 || place == length-1 {
				want = 1
			}
			if length == 1 {
				want = 0
			}
			wantHandovers(t, changed(repeated(3, length), place, -3), want)
		}
	}
}

// A list has as many changes as both of its parts, and one more if they differ where they meet.
func TestChangesOfParts(t *testing.T) {
	for seed := range 100 {
		list := mixedNumbers(seed, seed, 1+seed%3)
		for place := 1; place < len(list); place++ {
			sum := impl.CountHandovers(list[:place]) + impl.CountHandovers(list[place:])
			if list[place] != list[place-1] {
				sum++
			}
			wantHandovers(t, list, sum)
		}
	}
}

// Promise 94 for the cells of traces.
func TestHandoversOfTraces(t *testing.T) {
	eachTrace(func(rows [][]int) {
		for _, margin := range []int{0, 3, 200} {
			wantCounted(t, impl.ServeTrace(rows, margin))
		}
	})
}

func TestCellArgumentsAreNotWritten(t *testing.T) {
	check := func(rows [][]int) {
		part, wholes := guardedRows(rows, 77)
		for _, margin := range []int{0, 1, 200, -1, 201} {
			overwrite(impl.ServeTrace(part, margin), -5)
			for _, row := range part {
				for current := -2; current <= len(row); current++ {
					impl.ServeCell(current, row, margin)
				}
				impl.CountHandovers(row)
			}
		}
		for k, row := range rows {
			wantInts(t, "the strengths of a row", part[k], row)
			wantInts(t, "the strengths, and what is behind them", wholes[k], append(slices.Clone(row), 77, 77, 77, 77))
		}
		for _, row := range part[:cap(part)][len(part) : len(part)+4] {
			wantInts(t, "a row behind the others", row, []int{77})
		}
	}
	eachTrace(check)
	for _, rows := range [][][]int{{nil}, {{}, {}}, {{1}, {}}, {{5, 201}, {5, 6}}, {{5, 6}, {-1, 6}}, {{5, 6}, {5}}, {{5}, {5, 6}}} {
		check(rows)
	}
	check(slices.Repeat([][]int{{3, 1, 2}}, 201))
	check(slices.Repeat([][]int{repeated(3, 9)}, 4))
}

func TestTracesAreNewMemory(t *testing.T) {
	eachTrace(func(rows [][]int) {
		for _, margin := range []int{0, 4, 200} {
			want := modelTrace(rows, margin)
			argument := copyOfRows(rows)
			cells, again := impl.ServeTrace(argument, margin), impl.ServeTrace(argument, margin)
			overwrite(again, -7)
			wantInts(t, "the cells", cells, want)
			for _, row := range argument {
				overwrite(row, 99)
			}
			overwrite(argument, nil)
			wantInts(t, "the cells", cells, want)
			overwrite(cells, -8)
			wantTrace(t, rows, margin, want...)
		}
	})
}

// Rows may overlap in memory, as parts of one list that goes on behind them.
func TestRowsThatOverlap(t *testing.T) {
	for count := 1; count <= 8; count++ {
		memory := mixedStrengths(count, 200+count, 0, 200)
		var rows [][]int
		for k := range 200 {
			rows = append(rows, memory[k:k+count])
		}
		before := slices.Clone(memory)
		for _, margin := range []int{0, 10, 100} {
			wantTrace(t, rows, margin, modelTrace(rows, margin)...)
			for current := -1; current < count; current++ {
				wantServe(t, current, memory[:count], margin, modelServe(current, memory[:count:count], margin))
			}
		}
		wantInts(t, "the memory of the rows", memory, before)
	}
}

// A call does not depend on the calls before it.
func TestCellsKeepNoState(t *testing.T) {
	others := [][][]int{nil, {{}}, {{5, 1}}, {{1, 5}, {5, 1}}, {{0, 0, 0, 200}}, {{0, 201}}, {{1, 2}, {1}}, slices.Repeat([][]int{{0, 0, 200}}, 201)}
	eachTrace(func(rows [][]int) {
		if len(rows) > 5 {
			return
		}
		want := modelTrace(rows, 1)
		for _, other := range others {
			for _, margin := range []int{0, 200, 201} {
				overwrite(impl.ServeTrace(other, margin), 7)
				for _, row := range other[:min(len(other), 2)] {
					impl.ServeCell(-1, row, margin)
					impl.ServeCell(len(row)-1, row, margin)
					impl.CountHandovers(row)
				}
			}
			wantTrace(t, rows, 1, want...)
			for k, row := range rows {
				wantServe(t, want[max(k-1, 0)], row, 1, modelServe(want[max(k-1, 0)], row, 1))
			}
			wantHandovers(t, want, modelHandovers(want))
		}
	})
}
