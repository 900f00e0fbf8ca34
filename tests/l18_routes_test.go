package tests

import (
	"math"
	"slices"
	"testing"

	"loop.example/softwareradio/impl"
)

// noLinks is a square table, also with more stations than are allowed.
func noLinks(count int) [][]int {
	table := make([][]int, count)
	for station := range table {
		table[station] = make([]int, count)
	}
	return table
}

func allLinks(count int, cost int) [][]int {
	table := noLinks(count)
	for a := range count {
		for b := range count {
			if a != b {
				table[a][b] = cost
			}
		}
	}
	return table
}

// withLinks adds, changes or removes links, each written as its first station, its second one and its cost.
func withLinks(table [][]int, links ...int) [][]int {
	table = copyOfRows(table)
	for link := range slices.Chunk(links, 3) {
		table[link[0]][link[1]] = link[2]
	}
	return table
}

// withWays has links in both directions.
func withWays(table [][]int, links ...int) [][]int {
	table = withLinks(table, links...)
	for link := range slices.Chunk(links, 3) {
		table[link[1]][link[0]] = link[2]
	}
	return table
}

// lineOf has links of equal cost from every station of a list to the next one.
func lineOf(count int, cost int, stations []int) [][]int {
	table := noLinks(count)
	for place := 1; place < len(stations); place++ {
		table[stations[place-1]][stations[place]] = cost
	}
	return table
}

// circle has links of equal cost from every station to the next one, the last one's being the first.
func circle(count int, cost int) [][]int {
	return withLinks(lineOf(count, cost, places(count)), count-1, 0, cost)
}

// opposite has all links in the opposite direction.
func opposite(table [][]int) [][]int {
	turned := noLinks(len(table))
	for a, row := range table {
		for b, cost := range row {
			turned[b][a] = cost
		}
	}
	return turned
}

// mirrored has the links to higher stations in both directions, and no others.
func mirrored(table [][]int) [][]int {
	table = copyOfRows(table)
	for a := range table {
		for b := range a {
			table[a][b] = table[b][a]
		}
	}
	return table
}

// renamed has the links of station k at the station that a list has at place k.
func renamed(table [][]int, names []int) [][]int {
	other := noLinks(len(table))
	for a, row := range table {
		for b, cost := range row {
			other[names[a]][names[b]] = cost
		}
	}
	return other
}

// besideEachOther has two tables without links between them.
func besideEachOther(a [][]int, b [][]int) [][]int {
	table := noLinks(len(a) + len(b))
	for station, row := range a {
		copy(table[station], row)
	}
	for station, row := range b {
		copy(table[len(a)+station][len(a):], row)
	}
	return table
}

// numberedCosts has the digits of a number as places in a list of costs.
func numberedCosts(count int, number int, costs []int) [][]int {
	table := noLinks(count)
	for a := range count {
		for b := range count {
			if a != b {
				table[a][b] = costs[number%len(costs)]
				number /= len(costs)
			}
		}
	}
	return table
}

// eachNumberedCosts calls a test with all tables that have these costs.
func eachNumberedCosts(count int, costs []int, check func(table [][]int)) {
	tables := 1
	for range count * (count - 1) {
		tables *= len(costs)
	}
	for number := range tables {
		check(numberedCosts(count, number, costs))
	}
}

// mixedCosts has some of every sixteen links, with costs up to a number.
func mixedCosts(seed int, count int, some int, most int) [][]int {
	table := noLinks(count)
	for a := range count {
		for b := range count {
			if x := mixed(seed, count*a+b); a != b && int(x%16) < some {
				table[a][b] = 1 + int(x>>8%uint64(most))
			}
		}
	}
	return table
}

// smallCosts calls a test with all tables of up to three stations that have a few costs, and of four stations with links or none.
func smallCosts(check func(table [][]int)) {
	for count := range 4 {
		eachNumberedCosts(count, []int{0, 1, 2, 3, 100}, check)
	}
	eachNumberedCosts(4, []int{0, 1}, check)
	eachNumberedCosts(4, []int{0, 100}, check)
}

// largeCosts calls a test with tables of least to most stations: without links, with all links, with paths over all stations, and mixed ones with few links, many, few costs and many.
func largeCosts(least int, most int, seeds int, check func(table [][]int)) {
	for count := least; count <= most; count++ {
		check(noLinks(count))
		for _, cost := range []int{1, 7, 100} {
			check(allLinks(count, cost))
			check(lineOf(count, cost, places(count)))
			check(lineOf(count, cost, reversed(places(count))))
			check(mirrored(lineOf(count, cost, places(count))))
			if count >= 2 {
				check(circle(count, cost))
				check(opposite(circle(count, cost)))
			}
		}
		for seed := range seeds {
			for _, most := range []int{1, 2, 5, 100} {
				table := mixedCosts(1000*count+seed, count, 1+seed%16, most)
				check(table)
				if seed%4 == 0 {
					check(mirrored(table))
				}
			}
		}
	}
}

// eachCosts calls a test with many tables of few stations, and some of all other numbers of stations.
func eachCosts(check func(table [][]int)) {
	smallCosts(check)
	largeCosts(4, 10, 48, check)
}

// someCosts are fewer, for tests that do more with each of them.
func someCosts(check func(table [][]int)) {
	for count := range 4 {
		eachNumberedCosts(count, []int{0, 1, 2}, check)
	}
	largeCosts(4, 10, 16, check)
}

// cheapestRoute has a path, nil if there is none.
type cheapestRoute struct {
	stations []int
	cost     int
}

// modelRoutes goes, in lexicographic order, along all paths from a station that visit no station twice, and keeps the first cheapest one to every station.
func modelRoutes(table [][]int, from int) []cheapestRoute {
	routes := make([]cheapestRoute, len(table))
	var visit func(path []int, cost int)
	visit = func(path []int, cost int) {
		last := path[len(path)-1]
		if best := routes[last]; best.stations == nil || cost < best.cost {
			routes[last] = cheapestRoute{slices.Clone(path), cost}
		}
		for station, more := range table[last] {
			if more > 0 && !slices.Contains(path, station) {
				visit(append(path, station), cost+more)
			}
		}
	}
	visit([]int{from}, 0)
	return routes
}

// modelCosts has the least cost from station i to station j as number j of row i, -1 without a path. It allows one station after the other on the way.
func modelCosts(table [][]int) [][]int {
	costs := copyOfRows(table)
	for a, row := range costs {
		for b := range row {
			if a != b && row[b] == 0 {
				row[b] = -1
			}
		}
	}
	for middle := range costs {
		for a := range costs {
			for b := range costs {
				first, second := costs[a][middle], costs[middle][b]
				if first >= 0 && second >= 0 && (costs[a][b] < 0 || first+second < costs[a][b]) {
					costs[a][b] = first + second
				}
			}
		}
	}
	return costs
}

// modelNext compares the stations from the highest one down to the lowest one.
func modelNext(table [][]int, costs [][]int, from int, to int) int {
	next := -1
	for station := len(table) - 1; station >= 0; station-- {
		linked := table[from][station] > 0 && costs[station][to] >= 0
		if linked && table[from][station]+costs[station][to] == costs[from][to] {
			next = station
		}
	}
	return next
}

// modelReached goes along all links from a station.
func modelReached(table [][]int, from int) []bool {
	reached := make([]bool, len(table))
	reached[from] = true
	for todo := []int{from}; len(todo) > 0; todo = todo[1:] {
		for station, cost := range table[todo[0]] {
			if cost > 0 && !reached[station] {
				reached[station] = true
				todo = append(todo, station)
			}
		}
	}
	return reached
}

// cheaper compares least costs, of which -1 is more than every other one.
func cheaper(cost int, other int) bool {
	return cost >= 0 && (other < 0 || cost < other)
}

// linkCount counts the links of a table.
func linkCount(table [][]int) int {
	count := 0
	for _, row := range table {
		for _, cost := range row {
			if cost > 0 {
				count++
			}
		}
	}
	return count
}

func wantCostsValid(t *testing.T, table [][]int, want bool) {
	t.Helper()
	if impl.CostsValid(table) != want {
		t.Fatalf("the costs %v are valid: %v, want %v", table, !want, want)
	}
}

func wantLeastCosts(t *testing.T, table [][]int, to int, want ...int) {
	t.Helper()
	if costs := impl.LeastCosts(table, to); !slices.Equal(costs, want) {
		t.Fatalf("the least costs of %v to %d are %v, want %v", table, to, costs, want)
	}
}

func wantNext(t *testing.T, table [][]int, from int, to int, want int) {
	t.Helper()
	if next := impl.NextStation(table, from, to); next != want {
		t.Fatalf("in %v the next station from %d to %d is %d, want %d", table, from, to, next, want)
	}
}

// wantRoute looks at the next station, too.
func wantRoute(t *testing.T, table [][]int, from int, to int, want ...int) {
	t.Helper()
	if route := impl.RouteTo(table, from, to); !slices.Equal(route, want) {
		t.Fatalf("in %v the route from %d to %d is %v, want %v", table, from, to, route, want)
	}
	next := -1
	if len(want) > 1 {
		next = want[1]
	}
	wantNext(t, table, from, to, next)
}

func wantCut(t *testing.T, table [][]int, from int, to int, want [][]int) {
	t.Helper()
	if rest := impl.CutLink(table, from, to); !slices.EqualFunc(rest, want, slices.Equal) {
		t.Fatalf("%v without the link from %d to %d is %v, want %v", table, from, to, rest, want)
	}
}

// wantModelOf takes the costs that modelCosts found for a table, or for one with further links that are on no least path.
func wantModelOf(t *testing.T, table [][]int, costs [][]int) {
	t.Helper()
	for to := range table {
		want := make([]int, len(table))
		for from := range table {
			want[from] = costs[from][to]
			var route []int
			if want[from] >= 0 {
				route = append(route, from)
				for station := from; station != to; {
					station = modelNext(table, costs, station, to)
					route = append(route, station)
				}
			}
			wantRoute(t, table, from, to, route...)
		}
		wantLeastCosts(t, table, to, want...)
	}
}

// wantRefusedStations is for stations that are not both in a table.
func wantRefusedStations(t *testing.T, table [][]int, from int, to int) {
	t.Helper()
	wantRoute(t, table, from, to)
	wantCut(t, table, from, to, nil)
}

// wantRefusedCosts tries all pairs of stations in and next to a table.
func wantRefusedCosts(t *testing.T, table [][]int) {
	t.Helper()
	wantCostsValid(t, table, false)
	stations := []int{-1, 0, 1, 2, len(table) / 2, len(table) - 1, len(table), 9, 10}
	slices.Sort(stations)
	for _, to := range slices.Compact(stations) {
		wantLeastCosts(t, table, to)
		for _, from := range slices.Compact(stations) {
			wantRefusedStations(t, table, from, to)
		}
	}
}

func TestMaxCost(t *testing.T) {
	if impl.MaxCost != 100 {
		t.Fatalf("a link costs at most %d", impl.MaxCost)
	}
}

func TestRouteExamples(t *testing.T) {
	table := [][]int{{0, 5, 1}, {0, 0, 0}, {0, 2, 0}}
	wantCostsValid(t, table, true)
	wantLeastCosts(t, table, 0, 0, -1, -1)
	wantLeastCosts(t, table, 1, 3, 0, 2)
	wantLeastCosts(t, table, 2, 1, -1, 0)
	wantRoute(t, table, 0, 1, 0, 2, 1)
	wantRoute(t, table, 2, 1, 2, 1)
	wantRoute(t, table, 1, 1, 1)
	wantRoute(t, table, 1, 0)
	wantCut(t, table, 0, 2, [][]int{{0, 5, 0}, {0, 0, 0}, {0, 2, 0}})
	wantLeastCosts(t, impl.CutLink(table, 0, 2), 1, 5, 0, 2)
	wantRoute(t, impl.CutLink(table, 0, 2), 0, 1, 0, 1)
	// From 0 to 3 there are three paths: the link, over 1, and over 2 and 4.
	table = withLinks(noLinks(5), 0, 3, 20, 0, 1, 9, 1, 3, 9, 0, 2, 5, 2, 4, 6, 4, 3, 6)
	wantLeastCosts(t, table, 3, 17, 9, 12, 0, 6)
	wantRoute(t, table, 0, 3, 0, 2, 4, 3)
	wantRoute(t, impl.CutLink(table, 4, 3), 0, 3, 0, 1, 3)
	wantRoute(t, impl.CutLink(impl.CutLink(table, 4, 3), 0, 1), 0, 3, 0, 3)
	wantRoute(t, table, 3, 0)
}

func TestNoStationsAndOneStationWithCosts(t *testing.T) {
	for _, none := range [][][]int{nil, {}, make([][]int, 0, 5)} {
		wantCostsValid(t, none, true)
		for station := -2; station < 12; station++ {
			wantLeastCosts(t, none, station)
			wantRefusedStations(t, none, station, station)
			wantRefusedStations(t, none, station, 0)
			wantRefusedStations(t, none, 0, station)
		}
	}
	one := [][]int{{0}}
	wantCostsValid(t, one, true)
	wantLeastCosts(t, one, 0, 0)
	wantRoute(t, one, 0, 0, 0)
	wantCut(t, one, 0, 0, one)
	for _, other := range [][][]int{{{1}}, {{100}}, {{-1}}, {{101}}, {nil}, {{}}, {{0, 0}}, {{0, 1}}, {{1, 0}}} {
		wantRefusedCosts(t, other)
	}
}

func TestStationsWithoutLinks(t *testing.T) {
	for count := range 11 {
		table := noLinks(count)
		wantCostsValid(t, table, true)
		for to := range count {
			wantLeastCosts(t, table, to, changed(repeated(-1, count), to, 0)...)
			for from := range count {
				if from == to {
					wantRoute(t, table, from, to, from)
				} else {
					wantRoute(t, table, from, to)
				}
			}
		}
	}
}

func TestAllStationsLinked(t *testing.T) {
	for count := range 11 {
		for _, cost := range []int{1, 2, 50, 99, 100} {
			table := allLinks(count, cost)
			wantCostsValid(t, table, true)
			for to := range count {
				wantLeastCosts(t, table, to, changed(repeated(cost, count), to, 0)...)
				for from := range count {
					if from == to {
						wantRoute(t, table, from, to, from)
						continue
					}
					wantRoute(t, table, from, to, from, to)
					wantModelOf(t, withLinks(table, from, to, 0), modelCosts(withLinks(table, from, to, 0)))
				}
			}
		}
	}
}

// A station has a route of no links to itself, whatever links there are.
func TestStationsToThemselves(t *testing.T) {
	eachCosts(func(table [][]int) {
		for station := range table {
			wantRoute(t, table, station, station, station)
			if impl.LeastCosts(table, station)[station] != 0 {
				t.Fatalf("%v has a cost from %d to itself", table, station)
			}
		}
	})
}

// Promise 19, and all that the chapter says of next stations: all tables of up to three stations with five costs, of four with links or none, and mixed ones of up to six, for which all paths are tried.
func TestAllPathsOfSmallTables(t *testing.T) {
	detours, choices := 0, 0
	check := func(table [][]int) {
		for from := range table {
			for to, best := range modelRoutes(table, from) {
				wantRoute(t, table, from, to, best.stations...)
				cost := best.cost
				if best.stations == nil {
					cost = -1
				}
				if costs := impl.LeastCosts(table, to); costs[from] != cost {
					t.Fatalf("the least costs of %v to %d are %v, want %d from %d", table, to, costs, cost, from)
				}
				if len(best.stations) > 2 && table[from][to] > cost {
					detours++
				}
				if len(best.stations) > 2 && table[from][to] == cost {
					choices++
				}
			}
		}
	}
	smallCosts(check)
	largeCosts(4, 6, 200, check)
	if detours < 1000 || choices < 1000 {
		t.Fatal(detours, "links cost more than several others,", choices, "cost as much")
	}
}

// The least costs of all tables of four stations with two costs of which one is more than twice the other.
func TestLeastCostsOfFourStations(t *testing.T) {
	to := 0
	eachNumberedCosts(4, []int{0, 1, 3}, func(table [][]int) {
		want := make([]int, 4)
		for from, row := range modelCosts(table) {
			want[from] = row[to]
		}
		wantLeastCosts(t, table, to, want...)
		to = (to + 1) % 4
	})
}

func TestRoutesLikeModel(t *testing.T) {
	some := 0
	largeCosts(5, 10, 100, func(table [][]int) {
		costs := modelCosts(table)
		wantModelOf(t, table, costs)
		for _, row := range costs {
			if slices.Contains(row, -1) && slices.Max(row) > 0 {
				some++
			}
		}
	})
	if some < 1000 {
		t.Fatal("only", some, "stations reach some of the others and not all")
	}
}

// Promise 18: for every link, the least cost of its first station is at most the cost of the link plus the least cost of its second station; every least cost other than 0 is reached by a link; and the station itself has the cost 0.
func TestTriangleInequality(t *testing.T) {
	eachCosts(func(table [][]int) {
		for to := range table {
			costs := impl.LeastCosts(table, to)
			if len(costs) != len(table) || costs[to] != 0 {
				t.Fatalf("the least costs of %v to %d are %v", table, to, costs)
			}
			for from, row := range table {
				reached := false
				for station, cost := range row {
					if cost == 0 || costs[station] < 0 {
						continue
					}
					if cheaper(cost+costs[station], costs[from]) {
						t.Fatalf("the least costs of %v to %d are %v; from %d over %d costs less", table, to, costs, from, station)
					}
					reached = reached || costs[from] == cost+costs[station]
				}
				if costs[from] < -1 || from != to && costs[from] == 0 || costs[from] > 0 && !reached {
					t.Fatalf("the least costs of %v to %d are %v; no link reaches that of %d", table, to, costs, from)
				}
			}
		}
	})
}

// Promise 19: the costs of the links of a route add up to the least cost; no station occurs twice; and there is a route exactly if there is a path.
func TestRoutesHaveTheLeastCost(t *testing.T) {
	eachCosts(func(table [][]int) {
		for from := range table {
			for to, reached := range modelReached(table, from) {
				route := impl.RouteTo(table, from, to)
				least := impl.LeastCosts(table, to)[from]
				if (len(route) > 0) != reached || (least >= 0) != reached {
					t.Fatalf("in %v the route from %d to %d is %v, with the least cost %d, and there is a path: %v", table, from, to, route, least, reached)
				}
				if reached {
					wantRouteOf(t, table, route, from, to, least)
				}
			}
		}
	})
}

// wantRouteOf looks at the stations of a route, its links and their cost.
func wantRouteOf(t *testing.T, table [][]int, route []int, from int, to int, cost int) {
	t.Helper()
	if route[0] != from || route[len(route)-1] != to {
		t.Fatalf("in %v the route from %d to %d is %v", table, from, to, route)
	}
	sum := 0
	for place, station := range route {
		if slices.Contains(route[:place], station) {
			t.Fatalf("in %v the route %v has a station twice", table, route)
		}
		if place > 0 {
			link := table[route[place-1]][station]
			if link == 0 {
				t.Fatalf("in %v the route %v has links that do not exist", table, route)
			}
			sum += link
		}
	}
	if sum != cost {
		t.Fatalf("in %v the route %v costs %d, want %d", table, route, sum, cost)
	}
}

// Promise 90: the least cost of the next station is less, by the cost of the link; there is one exactly if there is a path and the stations are different.
func TestNextStationsAreNearer(t *testing.T) {
	eachCosts(func(table [][]int) {
		for from := range table {
			for to, reached := range modelReached(table, from) {
				next := impl.NextStation(table, from, to)
				if !reached || from == to {
					wantNext(t, table, from, to, -1)
					continue
				}
				costs := impl.LeastCosts(table, to)
				if next < 0 || next >= len(table) || table[from][next] == 0 || costs[next] < 0 || costs[from]-costs[next] != table[from][next] {
					t.Fatalf("in %v the next station from %d to %d is %d, with the least costs %v", table, from, to, next, costs)
				}
				for lower := range next {
					if table[from][lower] > 0 && costs[lower] >= 0 && table[from][lower]+costs[lower] == costs[from] {
						t.Fatalf("in %v the next station from %d to %d is %d, and not %d", table, from, to, next, lower)
					}
				}
			}
		}
	})
}

// Of several paths of the least cost the next station with the lowest number counts, at every station anew.
func TestSeveralLeastPaths(t *testing.T) {
	// Every station of a level is linked to all of the next one.
	levels := withLinks(noLinks(9), 8, 7, 1, 8, 2, 1, 8, 5, 1)
	for _, a := range []int{7, 2, 5} {
		for _, b := range []int{6, 1, 3} {
			levels = withLinks(levels, a, b, 1, b, 4, 1)
		}
	}
	wantLeastCosts(t, levels, 4, -1, 1, 2, 1, 0, 2, 1, 2, 3)
	wantRoute(t, levels, 8, 4, 8, 2, 1, 4)
	wantRoute(t, withLinks(levels, 2, 1, 2), 8, 4, 8, 2, 3, 4)
	wantRoute(t, withLinks(levels, 8, 2, 2), 8, 4, 8, 5, 1, 4)
	wantRoute(t, withLinks(levels, 8, 2, 2, 8, 5, 0), 8, 4, 8, 7, 1, 4)
	// The station with the lowest number has the most expensive link, the most links, or both.
	wantRoute(t, withLinks(noLinks(4), 0, 1, 9, 1, 3, 1, 0, 2, 1, 2, 3, 9), 0, 3, 0, 1, 3)
	wantRoute(t, withLinks(noLinks(4), 0, 1, 1, 1, 3, 9, 0, 2, 9, 2, 3, 1), 0, 3, 0, 1, 3)
	wantRoute(t, withLinks(noLinks(4), 0, 1, 1, 1, 2, 1, 2, 3, 1, 0, 3, 3, 0, 2, 2, 1, 3, 2), 0, 3, 0, 1, 2, 3)
	// A link is as cheap as several others, the first of which leads to a lower station, or to a higher one.
	wantRoute(t, withLinks(noLinks(3), 0, 2, 10, 0, 1, 5, 1, 2, 5), 0, 2, 0, 1, 2)
	wantRoute(t, withLinks(noLinks(3), 0, 1, 10, 0, 2, 5, 2, 1, 5), 0, 1, 0, 1)
	for first := 2; first < 10; first++ {
		table := noLinks(10)
		for station := first; station < 10; station++ {
			table = withLinks(table, 0, station, station, station, 1, 11-station)
		}
		wantRoute(t, table, 0, 1, 0, first, 1)
		wantRoute(t, withLinks(table, 0, 1, 11), 0, 1, 0, 1)
		wantRoute(t, withLinks(table, 0, 1, 12), 0, 1, 0, first, 1)
		wantRoute(t, withLinks(table, 0, 9, 8), 0, 1, 0, 9, 1)
	}
}

// A link costs less than a path of several links, as much, or more.
func TestLinksBesideLongerPaths(t *testing.T) {
	for count := 3; count <= 10; count++ {
		for _, each := range []int{1, 2, 11, 100 / (count - 1)} {
			line := lineOf(count, each, places(count))
			last, sum := count-1, each*(count-1)
			for cost := 1; cost <= 100; cost++ {
				table := withLinks(line, 0, last, cost)
				if cost < sum {
					wantRoute(t, table, 0, last, 0, last)
				} else {
					wantRoute(t, table, 0, last, places(count)...)
				}
				if costs := impl.LeastCosts(table, last); costs[0] != min(cost, sum) {
					t.Fatalf("the least costs of %v to %d are %v", table, last, costs)
				}
			}
		}
	}
	// Nine links of 11 cost 99, and with one of 12 they cost 100.
	line := lineOf(10, 11, places(10))
	wantRoute(t, withLinks(line, 0, 9, 100), 0, 9, places(10)...)
	wantRoute(t, withLinks(line, 0, 9, 100, 4, 5, 12), 0, 9, places(10)...)
	wantRoute(t, withLinks(line, 0, 9, 100, 4, 5, 13), 0, 9, 0, 9)
}

// Only one path leads over all stations, in any order of their numbers; it may be the most expensive one that is possible.
func TestPathsOverAllStations(t *testing.T) {
	for count := 2; count <= 10; count++ {
		orders := [][]int{places(count), reversed(places(count))}
		for seed := range 100 {
			order := places(count)
			for place := range order {
				other := int(mixed(seed, place) % uint64(place+1))
				order[place], order[other] = order[other], order[place]
			}
			orders = append(orders, order)
		}
		for _, order := range orders {
			for _, cost := range []int{1, 2, 99, 100} {
				wantLine(t, lineOf(count, cost, order), cost, order)
			}
		}
	}
	wantLeastCosts(t, lineOf(10, 100, places(10)), 9, 900, 800, 700, 600, 500, 400, 300, 200, 100, 0)
	wantLeastCosts(t, circle(10, 100), 9, 900, 800, 700, 600, 500, 400, 300, 200, 100, 0)
	wantLeastCosts(t, circle(10, 100), 3, 300, 200, 100, 0, 900, 800, 700, 600, 500, 400)
}

// wantLine is for links in one direction only: there is no way back, and with links back of the same cost there is.
func wantLine(t *testing.T, line [][]int, cost int, order []int) {
	t.Helper()
	both := line
	for place := 1; place < len(order); place++ {
		both = withWays(both, order[place-1], order[place], cost)
	}
	for a, first := range order {
		want, wantBoth := repeated(-1, len(order)), make([]int, len(order))
		for b, second := range order {
			if b <= a {
				want[second] = cost * (a - b)
				wantRoute(t, line, second, first, order[b:a+1]...)
				wantRoute(t, both, second, first, order[b:a+1]...)
			} else {
				wantRoute(t, line, second, first)
				wantRoute(t, both, second, first, reversed(order[a:b+1])...)
			}
			wantBoth[second] = cost * max(a-b, b-a)
		}
		wantLeastCosts(t, line, first, want...)
		wantLeastCosts(t, both, first, wantBoth...)
	}
}

func TestLinksInOneDirection(t *testing.T) {
	for count := 2; count <= 10; count++ {
		for a := range count {
			for b := range count {
				if a == b {
					continue
				}
				for _, cost := range []int{1, 100} {
					table := withLinks(noLinks(count), a, b, cost)
					wantLeastCosts(t, table, b, changed(changed(repeated(-1, count), b, 0), a, cost)...)
					wantLeastCosts(t, table, a, changed(repeated(-1, count), a, 0)...)
					wantRoute(t, table, a, b, a, b)
					wantRoute(t, table, b, a)
					table = withLinks(table, b, a, 101-cost)
					wantLeastCosts(t, table, b, changed(changed(repeated(-1, count), b, 0), a, cost)...)
					wantLeastCosts(t, table, a, changed(changed(repeated(-1, count), a, 0), b, 101-cost)...)
					wantRoute(t, table, b, a, b, a)
				}
			}
		}
	}
}

// A station that no link leads to cannot be reached, though it reaches all others; with all links in the opposite direction it reaches none.
func TestStationsThatCannotBeReached(t *testing.T) {
	for count := 2; count <= 10; count++ {
		for alone := range count {
			for _, full := range [][][]int{allLinks(count, 5), circle(count, 5), mixedCosts(count, count, 12, 100)} {
				table := copyOfRows(full)
				for station := range count {
					table[station][alone] = 0
				}
				wantLeastCosts(t, table, alone, changed(repeated(-1, count), alone, 0)...)
				wantModelOf(t, table, modelCosts(table))
				table = opposite(table)
				for to := range count {
					if to != alone && impl.LeastCosts(table, to)[alone] != -1 {
						t.Fatalf("in %v there is a path from %d to %d", table, alone, to)
					}
				}
				wantModelOf(t, table, modelCosts(table))
			}
		}
	}
}

// Stations are linked among themselves, and to others not at all or in one direction only.
func TestSeparateStations(t *testing.T) {
	for first := 1; first < 10; first++ {
		for second := 1; first+second <= 10; second++ {
			table := besideEachOther(allLinks(first, 3), allLinks(second, 4))
			for to := range first + second {
				want := slices.Concat(repeated(3, first), repeated(-1, second))
				if to >= first {
					want = slices.Concat(repeated(-1, first), repeated(4, second))
				}
				wantLeastCosts(t, table, to, changed(want, to, 0)...)
			}
			wantRoute(t, table, 0, first)
			wantRoute(t, table, first, 0)
			bridge := withLinks(table, first-1, first+second-1, 100)
			wantModelOf(t, bridge, modelCosts(bridge))
			wantRoute(t, bridge, first, 0)
			wantLeastCosts(t, bridge, 0, impl.LeastCosts(table, 0)...)
		}
	}
}

// A link to a station without a path, marked by -1, does not count, though its cost would add up to the least cost.
func TestLinksToStationsWithoutPath(t *testing.T) {
	for cost := 1; cost < 100; cost++ {
		table := withLinks(noLinks(4), 2, 3, cost, 2, 0, cost+1, 2, 1, cost)
		wantLeastCosts(t, table, 3, -1, -1, cost, 0)
		wantRoute(t, table, 2, 3, 2, 3)
		wantRoute(t, table, 0, 3)
	}
	// With a link of the cost 1 from the station itself the sum would be 0.
	table := withLinks(noLinks(3), 2, 0, 1, 2, 1, 1)
	wantLeastCosts(t, table, 2, -1, -1, 0)
	wantRoute(t, table, 2, 2, 2)
	// Neither station has a path, and the link between them costs nothing less than 1.
	table = withWays(noLinks(4), 0, 1, 1)
	wantLeastCosts(t, table, 3, -1, -1, -1, 0)
	wantRoute(t, table, 0, 3)
	wantRoute(t, table, 1, 3)
}

// With other numbers of the stations the least costs are the same.
func TestNumbersOfStationsDoNotMatter(t *testing.T) {
	someCosts(func(table [][]int) {
		count := len(table)
		for turn := range count {
			names := slices.Concat(places(count)[turn:], places(count)[:turn])
			for _, order := range [][]int{names, reversed(names)} {
				other := renamed(table, order)
				for to := range count {
					want := make([]int, count)
					for from, cost := range impl.LeastCosts(table, to) {
						want[order[from]] = cost
					}
					wantLeastCosts(t, other, order[to], want...)
				}
			}
		}
	})
}

// Promise 89: a valid table with a cost beyond MaxCost, or below 0, is invalid.
func TestCostsOutOfRange(t *testing.T) {
	for count := 1; count <= 10; count++ {
		for _, table := range [][][]int{noLinks(count), allLinks(count, 100), mixedCosts(count, count, 8, 100)} {
			for a := range count {
				for b := range count {
					if a == b {
						continue
					}
					for _, cost := range []int{0, 1, 99, 100} {
						wantCostsValid(t, withLinks(table, a, b, cost), true)
					}
					wantRefusedCosts(t, withLinks(table, a, b, -1))
					wantRefusedCosts(t, withLinks(table, a, b, 101))
					for _, cost := range outside(0, 100) {
						wantCostsValid(t, withLinks(table, a, b, cost), false)
					}
				}
			}
			for _, cost := range outside(0, 100) {
				wantRefusedCosts(t, withLinks(table, count-1, 0, cost))
				wantRefusedCosts(t, allLinks(max(count, 2), cost))
			}
		}
	}
}

// Promise 89: a valid table with a number other than 0 for a station itself is invalid.
func TestCostsOfStationsThemselves(t *testing.T) {
	for count := 1; count <= 10; count++ {
		for _, table := range [][][]int{noLinks(count), allLinks(count, 100), mixedCosts(count, count, 8, 100)} {
			for station := range count {
				for _, cost := range []int{-1, 1, 2, 50, 99, 100, 101, 256, 1 << 32, math.MinInt, math.MaxInt} {
					wantRefusedCosts(t, withLinks(table, station, station, cost))
				}
			}
		}
	}
	someCosts(func(table [][]int) {
		for station := range table {
			wantCostsValid(t, withLinks(table, station, station, 1), false)
			wantCostsValid(t, withLinks(table, station, station, 0), true)
		}
	})
}

// costRowsOfOtherLengths are cut or go on, with links or without them.
func costRowsOfOtherLengths(row []int) [][]int {
	rows := [][]int{nil}
	for length := range row {
		rows = append(rows, row[:length], row[:length:length])
	}
	for _, more := range []int{1, 2, 10 - len(row), 16 - len(row), 64, 256, 1 << 16} {
		if more > 0 {
			rows = append(rows, slices.Concat(row, repeated(0, more)), slices.Concat(row, repeated(5, more)))
		}
	}
	return rows
}

// Promise 89: tables are square, whichever row is shorter or longer than the others.
func TestCostRowsOfOtherLengths(t *testing.T) {
	for count := 1; count <= 10; count++ {
		for _, table := range [][][]int{noLinks(count), allLinks(count, 7), mixedCosts(count, count, 8, 100)} {
			for station := range count {
				for _, row := range costRowsOfOtherLengths(table[station]) {
					wantRefusedCosts(t, withRow(table, station, row))
				}
			}
		}
	}
}

// All rows have the same number of numbers, but not as many as there are rows; or only their sum is right.
func TestCostTablesThatAreNotSquare(t *testing.T) {
	for rows := 1; rows <= 10; rows++ {
		for numbers := range 20 {
			if numbers != rows {
				wantRefusedCosts(t, slices.Repeat([][]int{make([]int, numbers)}, rows))
			}
		}
		for a := range rows {
			for b := range rows {
				if a != b {
					wantRefusedCosts(t, withRow(withRow(noLinks(rows), a, make([]int, rows-1)), b, make([]int, rows+1)))
				}
			}
		}
	}
}

func TestTooManyStationsWithCosts(t *testing.T) {
	for _, count := range []int{11, 12, 13, 16, 17, 20, 32, 64, 65, 128, 256, 257, 266} {
		wantRefusedCosts(t, noLinks(count))
		wantRefusedCosts(t, allLinks(count, 1))
		wantRefusedCosts(t, circle(count, 100))
		for _, numbers := range []int{0, 1, 9, 10} {
			wantRefusedCosts(t, slices.Repeat([][]int{make([]int, numbers)}, count))
		}
	}
	wantRefusedCosts(t, make([][]int, 1<<16+3))
}

// Promise 89: a valid table without one of its stations is valid.
func TestTablesWithoutOneStation(t *testing.T) {
	eachCosts(func(table [][]int) {
		wantCostsValid(t, table, true)
		for station := range table {
			wantCostsValid(t, withoutStation(table, station), true)
		}
	})
}

// A table that is a part of the memory of a larger one has only the links of its own stations.
func TestCostTablesInLargerTables(t *testing.T) {
	largeCosts(10, 10, 30, func(large [][]int) {
		for count := range 10 {
			part := slices.Clone(large)[:count]
			for station := range part {
				part[station] = part[station][:count]
			}
			wantCostsValid(t, part, true)
			wantModelOf(t, part, modelCosts(part))
			wantRefusedStations(t, part, count, 0)
			wantRefusedStations(t, part, 0, count)
			wantLeastCosts(t, part, count)
		}
	})
}

// Stations that are not in the table, as the first one, as the second one and as both.
func TestOtherStations(t *testing.T) {
	for count := range 11 {
		for _, table := range [][][]int{noLinks(count), allLinks(count, 1), mixedCosts(count, count, 8, 100)} {
			for _, other := range outside(0, max(count-1, 0)) {
				wantLeastCosts(t, table, other)
				wantRefusedStations(t, table, other, other)
				for station := range count {
					wantRefusedStations(t, table, station, other)
					wantRefusedStations(t, table, other, station)
				}
			}
			for _, pair := range [][]int{{-1, count}, {count, -1}, {count, count}, {-1, -1}, {count, count + 1}, {math.MinInt, math.MaxInt}} {
				wantRefusedStations(t, table, pair[0], pair[1])
			}
		}
	}
}

// Promise 91: without a link no least cost is smaller; and cutting a link that does not exist changes nothing.
func TestFewerLinksAreNotBetter(t *testing.T) {
	greater, equal := 0, 0
	someCosts(func(table [][]int) {
		for a := range table {
			for b := range table {
				want := withLinks(table, a, b, 0)
				wantCut(t, table, a, b, want)
				rest := impl.CutLink(table, a, b)
				wantCostsValid(t, rest, true)
				if table[a][b] == 0 {
					wantCut(t, table, a, b, table)
				}
				for to := range table {
					before, after := impl.LeastCosts(table, to), impl.LeastCosts(rest, to)
					for from := range table {
						if cheaper(after[from], before[from]) || table[a][b] == 0 && after[from] != before[from] {
							t.Fatalf("the least costs of %v to %d are %v, and %v without the link from %d to %d", table, to, before, after, a, b)
						}
						if cheaper(before[from], after[from]) {
							greater++
						} else if table[a][b] > 0 {
							equal++
						}
					}
				}
			}
		}
	})
	if greater < 1000 || equal < 1000 {
		t.Fatal(greater, "least costs are greater without a link,", equal, "are not")
	}
}

// A link is the only one to its station, or the only one from it: without it there is no path.
func TestCuttingTheOnlyLink(t *testing.T) {
	for count := 2; count <= 10; count++ {
		for a := range count {
			for b := range count {
				if a == b {
					continue
				}
				table := allLinks(count, 5)
				for station := range count {
					table[station][b] = 0
				}
				table = withLinks(table, a, b, 9)
				if costs := impl.LeastCosts(table, b); slices.Contains(costs, -1) {
					t.Fatalf("the least costs of %v to %d are %v", table, b, costs)
				}
				rest := impl.CutLink(table, a, b)
				wantLeastCosts(t, rest, b, changed(repeated(-1, count), b, 0)...)
				wantRoute(t, rest, a, b)
				wantCut(t, opposite(table), b, a, opposite(rest))
				wantRoute(t, impl.CutLink(opposite(table), b, a), b, a)
				// The link in the other direction stays.
				wantRoute(t, rest, b, a, b, a)
			}
		}
	}
}

// A link on no least path, as it costs more than others, leads away, or is behind a station that cannot be reached: without it all routes are the same.
func TestCuttingLinksOnNoLeastPath(t *testing.T) {
	unused := 0
	check := func(table [][]int) {
		costs := modelCosts(table)
		for a, row := range table {
			for b, cost := range row {
				if cost > costs[a][b] {
					unused++
					wantModelOf(t, impl.CutLink(table, a, b), costs)
				}
			}
		}
	}
	eachNumberedCosts(3, []int{0, 1, 3}, check)
	largeCosts(4, 10, 8, check)
	if unused < 1000 {
		t.Fatal("only", unused, "links are on no least path")
	}
	away := withLinks(lineOf(5, 2, places(5)), 4, 0, 1)
	wantLeastCosts(t, away, 4, impl.LeastCosts(impl.CutLink(away, 4, 0), 4)...)
	wantRoute(t, impl.CutLink(away, 4, 0), 0, 4, places(5)...)
}

// Links that do not exist, among them those of stations to themselves, are cut as well.
func TestCuttingNoLink(t *testing.T) {
	for count := range 11 {
		for _, table := range [][][]int{noLinks(count), allLinks(count, 100), mixedCosts(count, count, 8, 100)} {
			for a := range count {
				wantCut(t, table, a, a, table)
				for b := range count {
					rest := impl.CutLink(table, a, b)
					wantCut(t, rest, a, b, rest)
					wantCut(t, noLinks(count), a, b, noLinks(count))
				}
			}
		}
	}
}

// Cutting all links, one after the other in any order, leaves none, and every one of them takes away one link.
func TestCuttingAllLinks(t *testing.T) {
	largeCosts(0, 10, 4, func(table [][]int) {
		count := len(table)
		rest := table
		for left := linkCount(table); left > 0; left-- {
			place := 0
			for skipped := int(mixed(left, count) % uint64(left)); skipped > 0 || rest[place/count][place%count] == 0; place++ {
				if rest[place/count][place%count] > 0 {
					skipped--
				}
			}
			rest = impl.CutLink(rest, place/count, place%count)
			if linkCount(rest) != left-1 {
				t.Fatalf("%v has %d links, want %d", rest, linkCount(rest), left-1)
			}
		}
		if !slices.EqualFunc(rest, noLinks(count), slices.Equal) {
			t.Fatalf("all links cut: %v", rest)
		}
	})
}

// Promise 143: if all links have the same cost in both directions, the least costs are the same in both directions.
func TestEqualLinksHaveEqualWaysBack(t *testing.T) {
	different := 0
	eachCosts(func(table [][]int) {
		for _, links := range [][][]int{mirrored(table), mirrored(opposite(table))} {
			for a := range links {
				for b := range a {
					there, back := impl.LeastCosts(links, b)[a], impl.LeastCosts(links, a)[b]
					if there != back {
						t.Fatalf("in %v the least cost is %d from %d to %d, and %d back", links, there, a, b, back)
					}
					if there >= 0 {
						wantRouteOf(t, links, reversed(impl.RouteTo(links, a, b)), b, a, back)
					}
					if !slices.Equal(impl.RouteTo(links, b, a), reversed(impl.RouteTo(links, a, b))) {
						different++
					}
				}
			}
		}
	})
	if different < 100 {
		t.Fatal("only", different, "routes back are other ones of the same cost")
	}
}

// With all links in the opposite direction the least costs are those of the ways back.
func TestOppositeLinks(t *testing.T) {
	eachCosts(func(table [][]int) {
		turned := opposite(table)
		for a := range table {
			for b := range table {
				if impl.LeastCosts(table, a)[b] != impl.LeastCosts(turned, b)[a] {
					t.Fatalf("%v and %v have different least costs between %d and %d", table, turned, a, b)
				}
			}
		}
	})
}

// conflictsOf has a conflict for every link in either direction.
func conflictsOf(table [][]int) [][]bool {
	conflicts := noConflicts(len(table))
	for a, row := range table {
		for b, cost := range row {
			if cost > 0 {
				conflicts = withConflicts(conflicts, a, b)
			}
		}
	}
	return conflicts
}

// Promise 117: with a table of conflicts for all links in either direction, the greedy slots are valid, and neighbouring stations on a route have different slots.
func TestDistantStationsMayShareSlots(t *testing.T) {
	shared := 0
	someCosts(func(table [][]int) {
		conflicts := conflictsOf(table)
		slots := impl.GreedySlots(conflicts)
		wantConflictsValid(t, conflicts, true)
		wantSlotsValid(t, conflicts, true, slots...)
		for from := range table {
			for to := range table {
				route := impl.RouteTo(table, from, to)
				for place := 1; place < len(route); place++ {
					if slots[route[place]] == slots[route[place-1]] {
						t.Fatalf("the route %v of %v has neighbours with the same of the slots %v", route, table, slots)
					}
					if place > 1 && slots[route[place]] == slots[route[place-2]] {
						shared++
					}
				}
			}
		}
	})
	if shared < 1000 {
		t.Fatal("only", shared, "stations share their slots with the next but one")
	}
	line := lineOf(10, 5, places(10))
	wantGreedy(t, conflictsOf(line), 0, 1, 0, 1, 0, 1, 0, 1, 0, 1)
	wantGreedy(t, conflictsOf(opposite(line)), 0, 1, 0, 1, 0, 1, 0, 1, 0, 1)
	wantGreedy(t, conflictsOf(allLinks(10, 1)), places(10)...)
	wantGreedy(t, conflictsOf(noLinks(10)), repeated(0, 10)...)
}

func TestRouteArgumentsAreNotWritten(t *testing.T) {
	check := func(table [][]int) {
		part, wholes := guardedRows(table, 77)
		impl.CostsValid(part)
		for from := -1; from <= len(table); from++ {
			overwrite(impl.LeastCosts(part, from), -5)
			for to := -1; to <= len(table); to++ {
				impl.NextStation(part, from, to)
				overwrite(impl.RouteTo(part, from, to), -6)
				rest := impl.CutLink(part, from, to)
				for _, row := range rest {
					overwrite(row, -7)
				}
				overwrite(rest, []int{-8})
			}
		}
		for station, row := range table {
			wantInts(t, "the numbers of a row", part[station], row)
			wantInts(t, "the costs, and what is behind them", wholes[station], append(slices.Clone(row), 77, 77, 77, 77))
		}
		for _, row := range part[:cap(part)][len(part) : len(part)+4] {
			wantInts(t, "a row behind the table", row, []int{77})
		}
	}
	someCosts(check)
	check(noLinks(11))
	check(allLinks(12, 5))
	check(withLinks(allLinks(6, 3), 2, 2, 1))
	check(withLinks(allLinks(6, 3), 5, 0, 101))
	check(withLinks(allLinks(6, 3), 0, 5, -1))
	check(withRow(allLinks(6, 3), 5, make([]int, 7)))
	check(withRow(allLinks(6, 3), 3, make([]int, 5)))
}

// A table that CutLink returns has rows of its own, each apart from the others, their spare capacity included.
func TestCutTablesAreNewMemory(t *testing.T) {
	someCosts(func(table [][]int) {
		for from := range table {
			to := len(table) - 1 - from
			want := withLinks(table, from, to, 0)
			rest := impl.CutLink(table, from, to)
			again := impl.CutLink(table, from, to)
			for station := range again {
				overwrite(again[station], -7)
				for other := station + 1; other < len(again); other++ {
					wantInts(t, "another row", again[other], want[other])
				}
			}
			overwrite(again, nil)
			if !slices.EqualFunc(rest, want, slices.Equal) {
				t.Fatalf("%v became %v", want, rest)
			}
			for station := len(rest) - 1; station >= 0; station-- {
				overwrite(rest[station], -8)
				for other := range station {
					wantInts(t, "another row", rest[other], want[other])
				}
			}
			wantCut(t, table, from, to, want)
		}
	})
}

// A row may occur several times in a table, but not in a result.
func TestRowsThatShareMemory(t *testing.T) {
	row := make([]int, 6)
	table := slices.Repeat([][]int{row}, 6)
	rest := impl.CutLink(table, 1, 4)
	overwrite(rest[2], 9)
	wantInts(t, "another row", rest[3], make([]int, 6))
	wantInts(t, "the row of the table", row, make([]int, 6))
	memory := slices.Concat(allLinks(4, 5)...)
	for station := range 4 {
		table[station] = memory[4*station : 4*station+4]
	}
	rest = impl.CutLink(table[:4], 3, 0)
	for station := range rest {
		overwrite(rest[station], 9)
	}
	wantInts(t, "the memory of the table", memory, slices.Concat(allLinks(4, 5)...))
}

func TestRouteResultsAreNewMemory(t *testing.T) {
	someCosts(func(table [][]int) {
		for to := range table {
			costs := impl.LeastCosts(table, to)
			wantCosts := slices.Clone(costs)
			overwrite(impl.LeastCosts(table, to), -7)
			wantInts(t, "the least costs", costs, wantCosts)
			overwrite(costs, -8)
			wantLeastCosts(t, table, to, wantCosts...)
			for from := range table {
				route := impl.RouteTo(table, from, to)
				want := slices.Clone(route)
				overwrite(impl.RouteTo(table, from, to), -7)
				wantInts(t, "the route", route, want)
				overwrite(route, -8)
				wantRoute(t, table, from, to, want...)
			}
		}
	})
}

// A call does not depend on the calls before it.
func TestRoutesKeepNoState(t *testing.T) {
	others := [][][]int{nil, allLinks(10, 1), circle(7, 100), noLinks(10), noLinks(11), withLinks(circle(5, 3), 2, 2, 1), withRow(circle(5, 3), 4, nil)}
	for count := range 4 {
		eachNumberedCosts(count, []int{0, 1, 2}, func(table [][]int) {
			costs := modelCosts(table)
			for _, other := range others {
				impl.CostsValid(other)
				impl.LeastCosts(other, 0)
				impl.NextStation(other, 0, len(other)-1)
				impl.RouteTo(other, 0, len(other)-1)
				impl.CutLink(other, 0, len(other)-1)
				wantCostsValid(t, table, true)
				wantModelOf(t, table, costs)
			}
		})
	}
}
