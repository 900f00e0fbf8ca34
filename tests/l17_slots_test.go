package tests

import (
	"math/bits"
	"slices"
	"testing"

	"loop.example/softwareradio/impl"
)

// conflictRows are written with x for a conflict.
func conflictRows(rows ...string) [][]bool {
	table := make([][]bool, len(rows))
	for station, row := range rows {
		table[station] = marks(row)
	}
	return table
}

// noConflicts is a square table, also with more stations than are allowed.
func noConflicts(count int) [][]bool {
	table := make([][]bool, count)
	for station := range table {
		table[station] = make([]bool, count)
	}
	return table
}

func allConflicts(count int) [][]bool {
	table := noConflicts(count)
	for a := range count {
		for b := range count {
			table[a][b] = a != b
		}
	}
	return table
}

// withConflicts adds mutual conflicts, written as pairs of stations one after the other.
func withConflicts(table [][]bool, stations ...int) [][]bool {
	table = copyOfRows(table)
	for pair := range slices.Chunk(stations, 2) {
		table[pair[0]][pair[1]] = true
		table[pair[1]][pair[0]] = true
	}
	return table
}

// withoutConflicts is the opposite of withConflicts.
func withoutConflicts(table [][]bool, stations ...int) [][]bool {
	table = copyOfRows(table)
	for pair := range slices.Chunk(stations, 2) {
		table[pair[0]][pair[1]] = false
		table[pair[1]][pair[0]] = false
	}
	return table
}

// withTurned has the opposite value at one place only.
func withTurned(table [][]bool, row int, column int) [][]bool {
	table = copyOfRows(table)
	table[row][column] = !table[row][column]
	return table
}

// numberedConflicts has a conflict for every bit of a number that is 1.
func numberedConflicts(count int, number uint64) [][]bool {
	table := noConflicts(count)
	for a := range count {
		for b := range a {
			table[a][b] = number&1 == 1
			table[b][a] = table[a][b]
			number >>= 1
		}
	}
	return table
}

// mixedConflicts has about as many conflicts as some of every sixteen pairs.
func mixedConflicts(seed int, count int, some int) [][]bool {
	var number uint64
	for place, conflict := range mixedMarks(seed, count*(count-1)/2, some) {
		if conflict {
			number |= 1 << place
		}
	}
	return numberedConflicts(count, number)
}

// ring has conflicts of every station with the next one, the last one's being the first.
func ring(count int) [][]bool {
	table := noConflicts(count)
	for station := range count {
		table = withConflicts(table, station, (station+1)%count)
	}
	return table
}

// crown has pairs of stations, the first of every pair being in conflict with the second ones of all other pairs. Two slots suffice, but the greedy schedule needs one per pair.
func crown(pairs int) [][]bool {
	table := noConflicts(2 * pairs)
	for a := range pairs {
		for b := range pairs {
			if a != b {
				table = withConflicts(table, 2*a, 2*b+1)
			}
		}
	}
	return table
}

// joinedConflicts has two tables, without conflicts between them or with all of them.
func joinedConflicts(a [][]bool, b [][]bool, between bool) [][]bool {
	table := noConflicts(len(a) + len(b))
	for row := range table {
		for column := range table {
			switch {
			case row < len(a) && column < len(a):
				table[row][column] = a[row][column]
			case row >= len(a) && column >= len(a):
				table[row][column] = b[row-len(a)][column-len(a)]
			default:
				table[row][column] = between
			}
		}
	}
	return table
}

// smallConflicts calls a test with all valid tables of at most most stations.
func smallConflicts(most int, check func(table [][]bool)) {
	for count := range most + 1 {
		for number := range 1 << (count * (count - 1) / 2) {
			check(numberedConflicts(count, uint64(number)))
		}
	}
}

// largeConflicts calls a test with valid tables of least to most stations, with few conflicts, many, and any number of them.
func largeConflicts(least int, most int, seeds int, check func(table [][]bool)) {
	for count := least; count <= most; count++ {
		check(noConflicts(count))
		check(allConflicts(count))
		if count >= 3 {
			check(ring(count))
		}
		for seed := range seeds {
			check(mixedConflicts(1000*count+seed, count, 1+seed%15))
		}
	}
}

// eachConflicts calls a test with all tables of few stations, and some of all other numbers of stations.
func eachConflicts(check func(table [][]bool)) {
	smallConflicts(5, check)
	largeConflicts(6, 10, 300, check)
}

// longerGreedy are tables for which the greedy schedule has more slots than the best one, up to as many stations as the best one is searched for.
func longerGreedy() [][][]bool {
	first := conflictRows("..x.", "...x", "x..x", ".xx.")
	return [][][]bool{
		first, crown(3),
		withConflicts(noConflicts(4), 0, 3, 3, 2, 2, 1),
		joinedConflicts(first, noConflicts(3), false),
		joinedConflicts(noConflicts(3), first, false),
		joinedConflicts(first, allConflicts(3), true),
		joinedConflicts(allConflicts(3), first, true),
		joinedConflicts(allConflicts(2), first, false),
		joinedConflicts(crown(3), noConflicts(1), true),
		joinedConflicts(noConflicts(1), crown(3), false),
	}
}

// slotCount counts the slots up to the greatest one.
func slotCount(slots []int) int {
	if len(slots) == 0 {
		return 0
	}
	return slices.Max(slots) + 1
}

func conflictCount(row []bool) int {
	count := 0
	for _, conflict := range row {
		if conflict {
			count++
		}
	}
	return count
}

func modelConflictsValid(table [][]bool) bool {
	for a := range table {
		if len(table[a]) != len(table) {
			return false
		}
	}
	for a := range table {
		for b := range table {
			if table[a][b] && a == b || table[a][b] != table[b][a] {
				return false
			}
		}
	}
	return len(table) <= 10
}

// modelFree tells whether no earlier station that is in conflict with a station has a slot.
func modelFree(table [][]bool, slots []int, station int, slot int) bool {
	for earlier := range station {
		if table[station][earlier] && slots[earlier] == slot {
			return false
		}
	}
	return true
}

// modelClash is the first station that is in conflict with an earlier one with the same slot; -1 if there is none.
func modelClash(table [][]bool, slots []int) int {
	for station, slot := range slots {
		if !modelFree(table, slots, station, slot) {
			return station
		}
	}
	return -1
}

func modelSlotsValid(table [][]bool, slots []int) bool {
	for _, slot := range slots {
		if slot < 0 || slot > 9 {
			return false
		}
	}
	return len(slots) == len(table) && modelClash(table, slots) < 0
}

// modelGreedy fills one slot after the other with the stations that have none.
func modelGreedy(table [][]bool) []int {
	slots := repeated(-1, len(table))
	for slot := 0; slices.Contains(slots, -1); slot++ {
		for station := range slots {
			if slots[station] < 0 && modelFree(table, slots, station, slot) {
				slots[station] = slot
			}
		}
	}
	return slots
}

// nextSlots goes on to the next list, in lexicographic order, that differs at a place or before; false if there is none.
func nextSlots(slots []int, place int, count int) bool {
	clear(slots[place+1:])
	for ; place >= 0; place-- {
		if slots[place]++; slots[place] < count {
			return true
		}
		slots[place] = 0
	}
	return false
}

// modelBest goes through the lists of one slot, of two slots and so on in lexicographic order.
func modelBest(table [][]bool) []int {
	for count := 1; len(table) > 0; count++ {
		slots := make([]int, len(table))
		clash := modelClash(table, slots)
		for more := true; more && clash >= 0; clash = modelClash(table, slots) {
			more = nextSlots(slots, clash, count)
		}
		if clash < 0 {
			return slots
		}
	}
	return nil
}

// modelAllInConflict looks at the stations whose bits are 1.
func modelAllInConflict(table [][]bool, set int) bool {
	for a := range table {
		for b := range a {
			if set>>a&1 == 1 && set>>b&1 == 1 && !table[a][b] {
				return false
			}
		}
	}
	return true
}

func modelGroup(table [][]bool) int {
	most := 0
	for set := range 1 << len(table) {
		if size := bits.OnesCount(uint(set)); size > most && modelAllInConflict(table, set) {
			most = size
		}
	}
	return most
}

func wantConflictsValid(t *testing.T, table [][]bool, want bool) {
	t.Helper()
	if impl.ConflictsValid(table) != want {
		t.Fatalf("the conflicts %v are valid: %v, want %v", table, !want, want)
	}
}

func wantSlotsValid(t *testing.T, table [][]bool, want bool, slots ...int) {
	t.Helper()
	if impl.SlotsValid(table, slots) != want {
		t.Fatalf("the slots %v are valid for the conflicts %v: %v, want %v", slots, table, !want, want)
	}
}

func wantGreedy(t *testing.T, table [][]bool, want ...int) {
	t.Helper()
	if slots := impl.GreedySlots(table); !slices.Equal(slots, want) {
		t.Fatalf("the greedy slots of %v are %v, want %v", table, slots, want)
	}
}

func wantBest(t *testing.T, table [][]bool, want ...int) {
	t.Helper()
	if slots := impl.BestSlots(table); !slices.Equal(slots, want) {
		t.Fatalf("the best slots of %v are %v, want %v", table, slots, want)
	}
}

func wantGroup(t *testing.T, table [][]bool, want int) {
	t.Helper()
	if size := impl.GroupSize(table); size != want {
		t.Fatalf("the greatest group of %v has %d stations, want %d", table, size, want)
	}
}

// wantRefusedConflicts tries also slots that would be valid for other tables.
func wantRefusedConflicts(t *testing.T, table [][]bool) {
	t.Helper()
	wantConflictsValid(t, table, false)
	wantGreedy(t, table)
	wantBest(t, table)
	wantGroup(t, table, -1)
	for _, length := range []int{0, 1, len(table) - 1, len(table), len(table) + 1} {
		if length >= 0 {
			wantSlotsValid(t, table, false, places(length)...)
			wantSlotsValid(t, table, false, repeated(0, length)...)
			wantSlotsValid(t, table, false, repeated(9, length)...)
		}
	}
}

func TestStationCounts(t *testing.T) {
	if impl.MaxStations != 10 || impl.MaxExact != 7 {
		t.Fatalf("at most %d stations, at most %d with the best schedule", impl.MaxStations, impl.MaxExact)
	}
}

func TestScheduleExamples(t *testing.T) {
	table := conflictRows("..x.", "...x", "x..x", ".xx.")
	wantConflictsValid(t, table, true)
	wantGreedy(t, table, 0, 0, 1, 2)
	wantBest(t, table, 0, 1, 1, 0)
	wantGroup(t, table, 2)
	wantSlotsValid(t, table, true, 5, 5, 9, 0)
	wantSlotsValid(t, table, false, 1, 0, 1, 2)
	wantSlotsValid(t, table, false, 0, 0, 1)
	// The third station is in conflict with all others, and the last two with each other.
	table = conflictRows("..x..", "..x..", "xx.xx", "..x.x", "..xx.")
	wantGreedy(t, table, 0, 0, 1, 0, 2)
	wantBest(t, table, 0, 0, 1, 0, 2)
	wantGroup(t, table, 3)
}

func TestNoStationsAndOneStation(t *testing.T) {
	for _, none := range [][][]bool{nil, {}, make([][]bool, 0, 5)} {
		wantConflictsValid(t, none, true)
		wantSlotsValid(t, none, true)
		wantSlotsValid(t, none, false, 0)
		wantGreedy(t, none)
		wantBest(t, none)
		wantGroup(t, none, 0)
	}
	one := [][]bool{{false}}
	wantConflictsValid(t, one, true)
	wantGreedy(t, one, 0)
	wantBest(t, one, 0)
	wantGroup(t, one, 1)
	for slot := range 10 {
		wantSlotsValid(t, one, true, slot)
	}
	wantSlotsValid(t, one, false)
	wantSlotsValid(t, one, false, 0, 1)
	for _, other := range [][][]bool{{{true}}, {nil}, {{}}, {{false, false}}, {{false, true}}} {
		wantRefusedConflicts(t, other)
	}
}

func TestNoConflicts(t *testing.T) {
	for count := range 11 {
		table := noConflicts(count)
		wantConflictsValid(t, table, true)
		wantGreedy(t, table, repeated(0, count)...)
		wantGroup(t, table, min(count, 1))
		if count <= 7 {
			wantBest(t, table, repeated(0, count)...)
		} else {
			wantBest(t, table)
		}
	}
}

// Promise 142: if all stations are in conflict, every station needs its own slot, and the group has all stations.
func TestAllStationsInConflict(t *testing.T) {
	for count := range 11 {
		table := allConflicts(count)
		wantConflictsValid(t, table, true)
		wantGreedy(t, table, places(count)...)
		wantGroup(t, table, count)
		wantSlotsValid(t, table, true, places(count)...)
		wantSlotsValid(t, table, true, reversed(places(count))...)
		if count <= 7 {
			wantBest(t, table, places(count)...)
		} else {
			wantBest(t, table)
		}
		for a := range count {
			for b := range a {
				wantSlotsValid(t, table, false, changed(places(count), a, b)...)
				wantSlotsValid(t, table, false, changed(places(count), b, a)...)
			}
		}
	}
}

// Without one of all conflicts, the two stations share a slot.
func TestAllConflictsButOne(t *testing.T) {
	for count := 2; count <= 10; count++ {
		for a := range count {
			for b := range a {
				table := withoutConflicts(allConflicts(count), a, b)
				want := places(count)
				want[a] = b
				for later := a + 1; later < count; later++ {
					want[later] = later - 1
				}
				wantGreedy(t, table, want...)
				wantGroup(t, table, count-1)
				if count <= 7 {
					wantBest(t, table, want...)
				}
			}
		}
	}
}

// Every table of up to four rows with as many values, whether it is valid or not.
func TestAllSmallTables(t *testing.T) {
	valid := 0
	for count := range 5 {
		for number := range 1 << (count * count) {
			table := noConflicts(count)
			for place := range count * count {
				table[place/count][place%count] = number>>place&1 == 1
			}
			if modelConflictsValid(table) {
				valid++
				wantConflictsValid(t, table, true)
				wantGroup(t, table, modelGroup(table))
			} else {
				wantRefusedConflicts(t, table)
			}
		}
	}
	if valid != 1+1+2+8+64 {
		t.Fatal(valid, "tables are valid")
	}
}

// Promise 85: a valid table without its last station is valid.
func TestTablesWithoutTheirLastStation(t *testing.T) {
	eachConflicts(func(table [][]bool) {
		wantConflictsValid(t, table, true)
		for count := len(table); count > 0; count-- {
			table = withoutStation(table, count-1)
			wantConflictsValid(t, table, true)
			wantSlotsValid(t, table, true, places(count-1)...)
		}
	})
}

// A table that is a part of the memory of a larger one has only the values of its own stations.
func TestTablesInLargerTables(t *testing.T) {
	largeConflicts(10, 10, 200, func(large [][]bool) {
		for count := range 10 {
			part := slices.Clone(large)[:count]
			for station := range part {
				part[station] = part[station][:count]
			}
			want := copyOfRows(part)
			wantConflictsValid(t, part, true)
			wantGreedy(t, part, modelGreedy(want)...)
			wantGroup(t, part, modelGroup(want))
			wantSlotsValid(t, part, true, places(10)[:count]...)
			if count <= 7 {
				wantBest(t, part, modelBest(want)...)
			} else {
				wantBest(t, part)
			}
		}
	})
}

// Promise 85: with a station in conflict with itself a table is not valid.
func TestStationsInConflictWithThemselves(t *testing.T) {
	smallConflicts(4, func(table [][]bool) {
		for station := range table {
			wantRefusedConflicts(t, withTurned(table, station, station))
		}
	})
	largeConflicts(5, 10, 40, func(table [][]bool) {
		for station := range table {
			wantRefusedConflicts(t, withTurned(table, station, station))
		}
	})
}

// Promise 85: a conflict that is not mutual is none of a valid table, whichever of the two stations it misses.
func TestConflictsThatAreNotMutual(t *testing.T) {
	check := func(table [][]bool) {
		for a := range table {
			for b := range table {
				if a != b {
					wantRefusedConflicts(t, withTurned(table, a, b))
				}
			}
		}
	}
	smallConflicts(4, check)
	largeConflicts(5, 10, 30, check)
}

// Two conflicts that are not mutual do not make up for each other.
func TestSeveralConflictsThatAreNotMutual(t *testing.T) {
	for count := 3; count <= 10; count++ {
		turning := noConflicts(count)
		for station := range count {
			turning[station][(station+1)%count] = true
		}
		wantRefusedConflicts(t, turning)
		upper := noConflicts(count)
		for a := range count {
			for b := range a {
				upper[b][a] = true
			}
		}
		wantRefusedConflicts(t, upper)
		for a := 1; a < count; a++ {
			wantRefusedConflicts(t, withTurned(withTurned(noConflicts(count), 0, a), a, a%(count-1)+1))
		}
	}
}

func TestTooManyStations(t *testing.T) {
	for _, count := range []int{11, 12, 13, 15, 16, 17, 20, 26, 31, 32, 33, 63, 64, 65, 74, 128, 129, 256, 257, 266, 300} {
		wantRefusedConflicts(t, noConflicts(count))
		wantRefusedConflicts(t, allConflicts(count))
		wantRefusedConflicts(t, ring(count))
	}
	large := make([][]bool, 1<<16+3)
	wantRefusedConflicts(t, large)
	for station := range large {
		large[station] = make([]bool, 3)
	}
	wantRefusedConflicts(t, large)
	for _, rows := range []int{11, 12, 17, 100} {
		for values := range 12 {
			wantRefusedConflicts(t, slices.Repeat([][]bool{make([]bool, values)}, rows))
		}
	}
}

// The best schedule is not searched for eight or more stations, however easy it would be to find.
func TestTooManyStationsForTheBestSchedule(t *testing.T) {
	largeConflicts(8, 10, 100, func(table [][]bool) {
		wantBest(t, table)
		wantConflictsValid(t, table, true)
		wantGreedy(t, table, modelGreedy(table)...)
	})
	for count := 8; count <= 10; count++ {
		for station := range count {
			wantBest(t, withTurned(noConflicts(count), station, station))
		}
	}
}

// rowsOfOtherLengths are cut or go on, with conflicts or without them.
func rowsOfOtherLengths(row []bool) [][]bool {
	var rows [][]bool
	for length := range row {
		rows = append(rows, row[:length:length])
	}
	for _, more := range []int{1, 2, 3, 10 - len(row), 16 - len(row), 22, 32 - len(row), 54, 64 - len(row), 64, 256, 1 << 16} {
		if more > 0 {
			rows = append(rows, slices.Concat(row, repeated(false, more)), slices.Concat(row, repeated(true, more)))
		}
	}
	return append(rows, row[:0])
}

func TestRowsWithOtherNumbersOfValues(t *testing.T) {
	largeConflicts(1, 10, 4, func(table [][]bool) {
		for station := range table {
			for _, row := range rowsOfOtherLengths(table[station]) {
				wantRefusedConflicts(t, withRow(table, station, row))
			}
			wantRefusedConflicts(t, withRow(table, station, nil))
		}
	})
}

// All rows have the same number of values, but not as many as there are rows; or only their sum is right.
func TestTablesThatAreNotSquare(t *testing.T) {
	for rows := 1; rows <= 10; rows++ {
		for values := range 20 {
			if values != rows {
				wantRefusedConflicts(t, slices.Repeat([][]bool{make([]bool, values)}, rows))
			}
		}
		for a := range rows {
			for b := range rows {
				if a != b {
					table := withRow(noConflicts(rows), a, make([]bool, rows-1))
					wantRefusedConflicts(t, withRow(table, b, make([]bool, rows+1)))
				}
			}
		}
	}
}

// Every list of a few slots, in and out of their range, for every table of up to four stations.
func TestAllSmallSchedules(t *testing.T) {
	lists := listsOf([]int{-1, 0, 1, 9, 10}, 5)
	valid := 0
	smallConflicts(4, func(table [][]bool) {
		for _, slots := range lists {
			want := modelSlotsValid(table, slots)
			wantSlotsValid(t, table, want, slots...)
			if want {
				valid++
			}
		}
	})
	if valid < 1000 {
		t.Fatal("only", valid, "lists are valid")
	}
}

func TestSchedulesLikeModel(t *testing.T) {
	valid, invalid := 0, 0
	largeConflicts(5, 10, 300, func(table [][]bool) {
		for seed := range 20 {
			slots := make([]int, len(table))
			for station := range slots {
				slots[station] = int(mixed(seed, station) % uint64(1+seed%10))
			}
			for _, list := range [][]int{slots, reversed(slots), negated(slots)} {
				want := modelSlotsValid(table, list)
				wantSlotsValid(t, table, want, list...)
				if want {
					valid++
				} else {
					invalid++
				}
			}
		}
	})
	if valid < 1000 || invalid < 1000 {
		t.Fatal(valid, "lists are valid,", invalid, "are not")
	}
}

// The slots have to be in their range at every place, whatever the conflicts are.
func TestSlotsOutOfRange(t *testing.T) {
	numbers := append(outside(0, 9), 10+1<<16, -1-1<<16)
	for count := 1; count <= 10; count++ {
		for _, table := range [][][]bool{noConflicts(count), allConflicts(count), mixedConflicts(count, count, 8)} {
			for station := range count {
				for _, number := range numbers {
					wantSlotsValid(t, table, false, changed(places(count), station, number)...)
				}
			}
			for _, number := range []int{-1, 10, 1 << 32} {
				wantSlotsValid(t, table, false, repeated(number, count)...)
			}
		}
	}
	wantSlotsValid(t, noConflicts(2), true, 0, 9)
	wantSlotsValid(t, noConflicts(2), true, 9, 9)
	wantSlotsValid(t, allConflicts(2), true, 9, 0)
	wantSlotsValid(t, allConflicts(2), false, 9, 9)
	wantSlotsValid(t, allConflicts(2), false, -1, 9)
	wantSlotsValid(t, allConflicts(2), false, 0, 10)
}

func TestSlotsForOtherNumbersOfStations(t *testing.T) {
	for count := range 11 {
		for _, table := range [][][]bool{noConflicts(count), allConflicts(count), mixedConflicts(count, count, 8)} {
			for length := range 25 {
				slots := places(length)
				for station := range slots {
					slots[station] = min(station, 9)
				}
				wantSlotsValid(t, table, length == count, slots...)
				if length != count {
					wantSlotsValid(t, table, false, repeated(0, length)...)
					wantSlotsValid(t, table, false, append(places(min(count, length)), repeated(9, length-min(count, length))...)...)
				}
			}
			wantSlotsValid(t, table, false, repeated(0, count+256)...)
			wantSlotsValid(t, table, false, repeated(0, count+1<<16)...)
		}
	}
}

// A slot for a further station in the spare capacity of a list is not a value of it.
func TestSlotsBehindTheListDoNotCount(t *testing.T) {
	for count := 1; count <= 10; count++ {
		for length := range count {
			if impl.SlotsValid(noConflicts(count), places(count)[:length]) {
				t.Fatal(count, "stations,", length, "slots")
			}
		}
	}
}

// Promise 86: valid slots stay valid if two slots are exchanged, and so do others stay invalid.
func TestSlotsCanBeExchanged(t *testing.T) {
	exchanged := func(slots []int, a int, b int) []int {
		slots = slices.Clone(slots)
		for station, slot := range slots {
			if slot == a {
				slots[station] = b
			} else if slot == b {
				slots[station] = a
			}
		}
		return slots
	}
	check := func(table [][]bool) {
		lists := [][]int{impl.GreedySlots(table), impl.BestSlots(table), places(len(table)), reversed(places(len(table)))}
		for _, slots := range lists {
			if len(slots) != len(table) {
				continue
			}
			wantSlotsValid(t, table, true, slots...)
			for b := range 10 {
				for a := range b {
					wantSlotsValid(t, table, true, exchanged(slots, a, b)...)
				}
			}
			for station := range slots {
				other := changed(slots, station, slots[0])
				want := modelSlotsValid(table, other)
				wantSlotsValid(t, table, want, other...)
				wantSlotsValid(t, table, want, exchanged(other, slots[0], 9)...)
			}
		}
	}
	smallConflicts(4, check)
	largeConflicts(5, 10, 60, check)
}

// Promise 86: without conflicts equal slots are valid.
func TestEqualSlotsWithoutConflicts(t *testing.T) {
	for count := range 11 {
		for slot := range 10 {
			wantSlotsValid(t, noConflicts(count), true, repeated(slot, count)...)
			wantSlotsValid(t, allConflicts(count), count < 2, repeated(slot, count)...)
		}
	}
}

// With a single conflict only its two stations need different slots.
func TestEqualSlotsOfStationsInConflict(t *testing.T) {
	for count := 2; count <= 10; count++ {
		for a := range count {
			for b := range a {
				table := withConflicts(noConflicts(count), a, b)
				for slot := range 10 {
					equal := repeated(slot, count)
					wantSlotsValid(t, table, false, equal...)
					for station := range count {
						wantSlotsValid(t, table, station == a || station == b, changed(equal, station, (slot+3)%10)...)
					}
				}
				wantSlotsValid(t, table, false, changed(places(count), a, b)...)
				wantGreedy(t, table, changed(repeated(0, count), a, 1)...)
				wantGroup(t, table, 2)
				if count <= 7 {
					wantBest(t, table, changed(repeated(0, count), a, 1)...)
				}
			}
		}
	}
}

// Promise 87: greedy slots are valid; a station has at most as many slots below its own as it has conflicts; the first station has the slot 0.
func TestGreedySlotsAreValid(t *testing.T) {
	eachConflicts(func(table [][]bool) {
		slots := impl.GreedySlots(table)
		wantInts(t, "the greedy slots", slots, modelGreedy(table))
		wantSlotsValid(t, table, true, slots...)
		for station, slot := range slots {
			if slot > conflictCount(table[station]) || slot > conflictCount(table[station][:station]) || station == 0 && slot != 0 {
				t.Fatalf("%v has the slots %v", table, slots)
			}
		}
	})
}

// A station takes the smallest free slot, which may be below, between or above those of the others.
func TestGreedySlotsAreSmallest(t *testing.T) {
	earlier := allConflicts(9)
	for set := range 1 << 9 {
		table := joinedConflicts(earlier, noConflicts(1), false)
		for station, taken := range reversed(digits(set, 9)) {
			if taken == 1 {
				table = withConflicts(table, station, 9)
			}
		}
		wantGreedy(t, table, append(places(9), bits.TrailingZeros(^uint(set)))...)
	}
	// Conflicts with later stations do not count.
	wantGreedy(t, withConflicts(noConflicts(10), 9, 0, 9, 1, 9, 2), changed(repeated(0, 10), 9, 1)...)
	wantGreedy(t, withConflicts(noConflicts(10), 0, 7, 0, 8, 0, 9), 0, 0, 0, 0, 0, 0, 0, 1, 1, 1)
}

// Promise 17: the best schedule is valid, has the smallest number of slots, and is the first of these in lexicographic order, for all tables for which it is searched.
func TestBestSlotsOfAllTables(t *testing.T) {
	longer := 0
	smallConflicts(7, func(table [][]bool) {
		want := modelBest(table)
		wantBest(t, table, want...)
		if slotCount(impl.GreedySlots(table)) > slotCount(want) {
			longer++
		}
	})
	if longer < 400000 {
		t.Fatal("the greedy schedule is longer for only", longer, "tables")
	}
}

// bestTables calls a test with tables for which the best schedule is searched.
func bestTables(check func(table [][]bool)) {
	smallConflicts(5, check)
	largeConflicts(6, 7, 1000, check)
	for _, table := range longerGreedy() {
		check(table)
	}
}

// Promise 17: the best schedule needs at least GroupSize slots, and not more than GreedySlots.
func TestBestSlotsAreBetweenGroupAndGreedy(t *testing.T) {
	aboveGroup, belowGreedy := 0, 0
	bestTables(func(table [][]bool) {
		best, greedy := impl.BestSlots(table), impl.GreedySlots(table)
		wantSlotsValid(t, table, true, best...)
		if len(best) != len(table) || slotCount(best) < impl.GroupSize(table) || slotCount(best) > slotCount(greedy) {
			t.Fatalf("%v has the best slots %v and the greedy slots %v", table, best, greedy)
		}
		for slot := range slotCount(best) {
			if !slices.Contains(best, slot) {
				t.Fatalf("%v has the best slots %v", table, best)
			}
		}
		// Of all valid lists the greedy one is the first, so that it is the best one unless it is longer.
		if slotCount(best) == slotCount(greedy) {
			wantInts(t, "the best slots", best, greedy)
		} else {
			belowGreedy++
		}
		if slotCount(best) > impl.GroupSize(table) {
			aboveGroup++
		}
	})
	if aboveGroup < 20 || belowGreedy < 100 {
		t.Fatal(aboveGroup, "tables need more slots than a group,", belowGreedy, "fewer than the greedy schedule")
	}
}

// Promise 17: without one station the best schedule does not need more slots.
func TestBestSlotsWithoutOneStation(t *testing.T) {
	fewer, equal := 0, 0
	bestTables(func(table [][]bool) {
		count := slotCount(impl.BestSlots(table))
		for station := range table {
			rest := slotCount(impl.BestSlots(withoutStation(table, station)))
			if rest > count || rest < count-1 {
				t.Fatalf("%v needs %d slots, and %d without station %d", table, count, rest, station)
			}
			if rest < count {
				fewer++
			} else {
				equal++
			}
		}
	})
	if fewer < 100 || equal < 100 {
		t.Fatal(fewer, "times fewer slots,", equal, "times as many")
	}
}

func TestGreedySchedulesThatAreLonger(t *testing.T) {
	for _, table := range longerGreedy() {
		best, greedy := modelBest(table), modelGreedy(table)
		if slotCount(greedy) <= slotCount(best) {
			t.Fatalf("%v has the greedy slots %v and the best slots %v", table, greedy, best)
		}
		wantGreedy(t, table, greedy...)
		wantBest(t, table, best...)
	}
	wantGreedy(t, crown(3), 0, 0, 1, 1, 2, 2)
	wantBest(t, crown(3), 0, 1, 0, 1, 0, 1)
	wantGreedy(t, crown(4), 0, 0, 1, 1, 2, 2, 3, 3)
	wantGreedy(t, crown(5), 0, 0, 1, 1, 2, 2, 3, 3, 4, 4)
	wantGroup(t, crown(5), 2)
	table := joinedConflicts(crown(3), noConflicts(1), true)
	wantGreedy(t, table, 0, 0, 1, 1, 2, 2, 3)
	wantBest(t, table, 0, 1, 0, 1, 0, 1, 2)
	wantGroup(t, table, 3)
	// The first station does not care, so that it has the slot 0.
	table = joinedConflicts(noConflicts(1), crown(3), false)
	wantGreedy(t, table, 0, 0, 0, 1, 1, 2, 2)
	wantBest(t, table, 0, 0, 1, 0, 1, 0, 1)
}

// Several schedules have the smallest number of slots; the one with the smaller slots for the first stations counts.
func TestFirstOfTheBestSchedules(t *testing.T) {
	// These stations, a path, have two slots in two ways only.
	table := conflictRows("..x.", "...x", "x..x", ".xx.")
	wantBest(t, table, 0, 1, 1, 0)
	wantSlotsValid(t, table, true, 1, 0, 0, 1)
	// Further stations may have any of the two slots.
	wantBest(t, joinedConflicts(table, noConflicts(3), false), 0, 1, 1, 0, 0, 0, 0)
	wantBest(t, joinedConflicts(noConflicts(3), table, false), 0, 0, 0, 0, 1, 1, 0)
	wantBest(t, joinedConflicts(ring(4), ring(3), false), 0, 1, 0, 1, 0, 1, 2)
	wantBest(t, joinedConflicts(ring(3), ring(4), false), 0, 1, 2, 0, 1, 0, 1)
	wantBest(t, joinedConflicts(ring(3), allConflicts(2), false), 0, 1, 2, 0, 1)
	wantBest(t, joinedConflicts(allConflicts(2), table, false), 0, 1, 0, 1, 1, 0)
	// If other stations need three slots, the path has three, too, because 0, 0, 1, 2 comes before 0, 1, 1, 0.
	wantBest(t, joinedConflicts(table, ring(3), false), 0, 0, 1, 2, 0, 1, 2)
	wantBest(t, joinedConflicts(ring(3), table, false), 0, 1, 2, 0, 0, 1, 2)
}

// In a ring of an odd number of stations three slots are needed, though no three stations are in conflict.
func TestRings(t *testing.T) {
	wantBest(t, ring(3), 0, 1, 2)
	wantBest(t, ring(4), 0, 1, 0, 1)
	wantBest(t, ring(5), 0, 1, 0, 1, 2)
	wantBest(t, ring(6), 0, 1, 0, 1, 0, 1)
	wantBest(t, ring(7), 0, 1, 0, 1, 0, 1, 2)
	wantGreedy(t, ring(9), 0, 1, 0, 1, 0, 1, 0, 1, 2)
	wantGreedy(t, ring(10), 0, 1, 0, 1, 0, 1, 0, 1, 0, 1)
	wantGroup(t, ring(3), 3)
	for count := 4; count <= 10; count++ {
		wantGroup(t, ring(count), 2)
	}
	// With a station in the middle one more slot is needed.
	wheel := joinedConflicts(ring(5), noConflicts(1), true)
	wantBest(t, wheel, 0, 1, 0, 1, 2, 3)
	wantGroup(t, wheel, 3)
	wantBest(t, joinedConflicts(ring(5), allConflicts(2), true), 0, 1, 0, 1, 2, 3, 4)
	wantBest(t, joinedConflicts(allConflicts(2), ring(5), true), 0, 1, 2, 3, 2, 3, 4)
	wantGroup(t, joinedConflicts(ring(5), ring(5), true), 4)
}

// Promise 88: the size is at most the number of stations, 0 exactly for none, and at least 2 if there is a conflict.
func TestGroupsNeedTheirOwnSlots(t *testing.T) {
	sizes := make([]int, 11)
	eachConflicts(func(table [][]bool) {
		size := impl.GroupSize(table)
		if size != modelGroup(table) {
			t.Fatalf("the greatest group of %v has %d stations, want %d", table, size, modelGroup(table))
		}
		conflict := slices.ContainsFunc(table, func(row []bool) bool { return slices.Contains(row, true) })
		if size > len(table) || (size == 0) != (len(table) == 0) || (size >= 2) != conflict {
			t.Fatalf("the greatest group of %v has %d stations", table, size)
		}
		if slotCount(impl.GreedySlots(table)) < size {
			t.Fatalf("a group of %d stations of %v has the slots %v", size, table, impl.GreedySlots(table))
		}
		sizes[size]++
	})
	for size, count := range sizes {
		if count == 0 {
			t.Fatal("no group has", size, "stations")
		}
	}
}

// Stations at all places are a group, alone, and beside stations that are in conflict with one of them each.
func TestGroupsAtAllPlaces(t *testing.T) {
	for set := 1; set < 1<<10; set++ {
		table := noConflicts(10)
		for a := range 10 {
			for b := range a {
				table[a][b] = set>>a&1 == 1 && set>>b&1 == 1
				table[b][a] = table[a][b]
			}
		}
		size := bits.OnesCount(uint(set))
		wantGroup(t, table, size)
		for other := range 10 {
			if set>>other&1 == 0 {
				table = withConflicts(table, other, bits.TrailingZeros(uint(set)))
			}
		}
		wantGroup(t, table, max(size, 2))
	}
}

// Several groups have the greatest size; they share stations or not, and there are smaller ones before them.
func TestGroupsOfEqualSize(t *testing.T) {
	for size := 1; size <= 5; size++ {
		wantGroup(t, joinedConflicts(allConflicts(size), allConflicts(size), false), size)
		wantGroup(t, joinedConflicts(allConflicts(size), allConflicts(size), true), 2*size)
	}
	wantGroup(t, joinedConflicts(allConflicts(4), allConflicts(6), false), 6)
	wantGroup(t, joinedConflicts(allConflicts(6), allConflicts(4), false), 6)
	wantGroup(t, joinedConflicts(noConflicts(5), noConflicts(5), true), 2)
	// Three groups of three, of which neighbours share a station.
	shared := withConflicts(noConflicts(7), 0, 1, 0, 2, 1, 2, 2, 3, 2, 4, 3, 4, 4, 5, 4, 6, 5, 6)
	wantGroup(t, shared, 3)
	wantBest(t, shared, 0, 1, 2, 0, 1, 0, 2)
	// All are in conflict but the two of each pair: every choice of one per pair is a group.
	pairs := allConflicts(10)
	for first := 0; first < 10; first += 2 {
		pairs = withoutConflicts(pairs, first, first+1)
	}
	wantGroup(t, pairs, 5)
	wantGreedy(t, pairs, 0, 0, 1, 1, 2, 2, 3, 3, 4, 4)
	wantGroup(t, joinedConflicts(ring(4), allConflicts(2), false), 2)
	wantGroup(t, withoutStation(pairs, 9), 5)
}

func TestScheduleArgumentsAreNotWritten(t *testing.T) {
	check := func(table [][]bool) {
		for _, guard := range []bool{false, true} {
			part, wholes := guardedRows(table, guard)
			slots, whole := guarded(places(len(table)), -3)
			impl.ConflictsValid(part)
			impl.SlotsValid(part, slots)
			impl.GroupSize(part)
			overwrite(impl.GreedySlots(part), -5)
			overwrite(impl.BestSlots(part), -6)
			wantInts(t, "the slots, and what is behind them", whole, append(places(len(table)), -3, -3, -3, -3))
			for station, row := range table {
				wantMarks(t, "the values of a row", part[station], row)
				wantMarks(t, "the conflicts, and what is behind them", wholes[station], append(slices.Clone(row), guard, guard, guard, guard))
			}
			for _, row := range part[:cap(part)][len(part) : len(part)+4] {
				wantMarks(t, "a row behind the table", row, []bool{guard})
			}
		}
	}
	largeConflicts(0, 11, 20, check)
	check(withTurned(noConflicts(6), 3, 3))
	check(withTurned(allConflicts(7), 3, 2))
	check(withRow(allConflicts(7), 3, marks("xxx.xx")))
	check(withRow(allConflicts(7), 6, marks("xxxxxx..")))
	for _, table := range longerGreedy() {
		check(table)
	}
}

func TestScheduleResultsAreNewMemory(t *testing.T) {
	bestTables(func(table [][]bool) {
		for _, find := range []func(table [][]bool) []int{impl.GreedySlots, impl.BestSlots} {
			slots := find(table)
			want := slices.Clone(slots)
			again := find(table)
			overwrite(again, -7)
			wantInts(t, "the slots", slots, want)
			overwrite(slots, -8)
			wantInts(t, "the slots of another call", find(table), want)
		}
	})
}

// A call does not depend on the calls before it.
func TestScheduleKeepsNoState(t *testing.T) {
	others := [][][]bool{nil, allConflicts(10), noConflicts(7), ring(7), crown(3), noConflicts(11), withTurned(ring(5), 2, 2)}
	smallConflicts(4, func(table [][]bool) {
		greedy, best, size := modelGreedy(table), modelBest(table), modelGroup(table)
		for _, other := range others {
			impl.ConflictsValid(other)
			impl.SlotsValid(other, places(len(other)))
			impl.GreedySlots(other)
			impl.BestSlots(other)
			impl.GroupSize(other)
			wantConflictsValid(t, table, true)
			wantSlotsValid(t, table, true, greedy...)
			wantGreedy(t, table, greedy...)
			wantBest(t, table, best...)
			wantGroup(t, table, size)
		}
	})
}
