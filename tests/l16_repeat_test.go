package tests

import (
	"slices"
	"strings"
	"testing"

	"loop.example/softwareradio/impl"
)

// marks are written as x, other values as points.
func marks(text string) []bool {
	list := make([]bool, len(text))
	for k := range list {
		list[k] = text[k] == 'x'
	}
	return list
}

// textOf is the opposite of marks, for the transmissions that can be made.
func textOf(list []bool) string {
	var text strings.Builder
	for _, mark := range list[:min(len(list), longestRun)] {
		if mark {
			text.WriteByte('x')
		} else {
			text.WriteByte('.')
		}
	}
	return text.String()
}

// marksOf has a number of marks.
func marksOf(count int) []bool {
	return repeated(true, count)
}

// markAt is a list that ends with its only mark.
func markAt(place int) []bool {
	return append(repeated(false, place), true)
}

// mixedMarks marks some of every sixteen transmissions.
func mixedMarks(seed int, length int, some int) []bool {
	list := make([]bool, length)
	for k := range list {
		list[k] = int(mixed(seed, k)%16) < some
	}
	return list
}

// marksUpTo are all lists of up to most values.
func marksUpTo(most int) [][]bool {
	var lists [][]bool
	for _, numbers := range listsOf([]int{0, 1}, most) {
		list := make([]bool, len(numbers))
		for k, number := range numbers {
			list[k] = number == 1
		}
		lists = append(lists, list)
	}
	return lists
}

// longestRun is more than the transmissions of any simulation.
const longestRun = 320

// padded has exactly longestRun values.
func padded(list []bool) []bool {
	list = slices.Clone(list[:min(len(list), longestRun)])
	return append(list, repeated(false, longestRun-len(list))...)
}

func marked(list []bool) int {
	count := 0
	for _, mark := range list {
		if mark {
			count++
		}
	}
	return count
}

// modelStop divides the transmissions into those of each message: they end with the first one whose confirmation arrives.
func modelStop(n int, lost []bool, unconfirmed []bool) ([]int, int) {
	lost, unconfirmed = padded(lost), padded(unconfirmed)
	var arrivals []int
	begin := 0
	for range n {
		end := begin
		for end < 300 && (lost[end] || unconfirmed[end]) {
			end++
		}
		if end >= 300 {
			return nil, 0
		}
		arrivals = append(arrivals, end+1-begin-marked(lost[begin:end+1]))
		begin = end + 1
	}
	return arrivals, begin
}

// modelBack also returns with how many transmissions done the rounds begin, the refused one included. Of a round everything before the first loss is accepted.
func modelBack(n int, window int, lost []bool) ([]int, []int, bool) {
	lost = padded(lost)
	var sent, begins []int
	waiting := places(n)
	for len(waiting) > 0 {
		begin := len(sent)
		begins = append(begins, begin)
		if begin >= 300 {
			return nil, begins, false
		}
		accepted := min(window, len(waiting))
		sent = append(sent, waiting[:accepted]...)
		if first := slices.Index(lost[begin:begin+accepted], true); first >= 0 {
			accepted = first
		}
		waiting = waiting[accepted:]
	}
	return sent, begins, true
}

// modelSelect is like modelBack, but of a round everything is accepted that is not lost.
func modelSelect(n int, window int, lost []bool) ([]int, []int, bool) {
	lost = padded(lost)
	var sent, begins []int
	waiting := places(n)
	for len(waiting) > 0 {
		begins = append(begins, len(sent))
		if len(sent) >= 300 {
			return nil, begins, false
		}
		var still []int
		for _, message := range waiting {
			behind := message-waiting[0] >= window
			if behind || lost[len(sent)] {
				still = append(still, message)
			}
			if !behind {
				sent = append(sent, message)
			}
		}
		waiting = still
	}
	return sent, begins, true
}

// endOfTries counts the rounds that begin with 299, with 300 and with more transmissions done, and the runs that are longer than 300.
type endOfTries struct {
	last   int
	exact  int
	beyond int
	long   int
}

func (e *endOfTries) add(sent []int, begins []int) {
	for _, begin := range begins {
		switch {
		case begin == 299:
			e.last++
		case begin == 300:
			e.exact++
		case begin > 300:
			e.beyond++
		}
	}
	if len(sent) > 300 {
		e.long++
	}
}

func wantEndOfTries(t *testing.T, e endOfTries) {
	t.Helper()
	if min(e.last, e.exact, e.beyond, e.long) < 100 {
		t.Fatalf("the tries end too seldom: %+v", e)
	}
}

// sentInRounds is GoBack or SelectRepeat.
type sentInRounds func(n int, window int, lost []bool) ([]int, bool)

// wantStop returns the arrivals, for further checks.
func wantStop(t *testing.T, n int, lost []bool, unconfirmed []bool, count int, want ...int) []int {
	t.Helper()
	arrivals, transmissions := impl.StopAndWait(n, lost, unconfirmed)
	if transmissions != count || !slices.Equal(arrivals, want) {
		t.Fatalf("%d messages, lost %s, unconfirmed %s: %d transmissions, arrivals %v; want %d, %v", n, textOf(lost), textOf(unconfirmed), transmissions, arrivals, count, want)
	}
	return arrivals
}

// wantSent returns the transmissions, for further checks.
func wantSent(t *testing.T, send sentInRounds, n int, window int, lost []bool, ok bool, want ...int) []int {
	t.Helper()
	sent, done := send(n, window, lost)
	if done != ok || !slices.Equal(sent, want) {
		t.Fatalf("%d messages, window %d, lost %s: sent %v, %v; want %v, %v", n, window, textOf(lost), sent, done, want, ok)
	}
	return sent
}

func wantBack(t *testing.T, n int, window int, lost []bool, want ...int) {
	t.Helper()
	wantSent(t, impl.GoBack, n, window, lost, true, want...)
}

func wantSelect(t *testing.T, n int, window int, lost []bool, want ...int) {
	t.Helper()
	wantSent(t, impl.SelectRepeat, n, window, lost, true, want...)
}

func wantNotSent(t *testing.T, n int, window int, lost []bool) {
	t.Helper()
	wantSent(t, impl.GoBack, n, window, lost, false)
	wantSent(t, impl.SelectRepeat, n, window, lost, false)
}

// lossLists are short lists, lists with single marks and with marks in a row, mixed ones, and those that use up the transmissions.
func lossLists() [][]bool {
	lists := marksUpTo(8)
	for place := range 60 {
		lists = append(lists, markAt(place), append(markAt(place), repeated(false, 300)...))
	}
	for _, place := range []int{0, 1, 2, 5, 7, 8, 15, 29} {
		for _, count := range []int{2, 3, 4, 7, 8, 9, 16, 20, 50} {
			lists = append(lists, append(repeated(false, place), marksOf(count)...))
		}
	}
	for seed := range 10 {
		for _, some := range []int{1, 2, 4, 8, 11, 13, 14} {
			lists = append(lists, mixedMarks(seed, 20+seed, some), mixedMarks(seed, 400, some))
		}
	}
	for count := 265; count < 312; count++ {
		lists = append(lists, marksOf(count))
		lists = append(lists, slices.Concat(marksOf(count), mixedMarks(count, 40, 4)))
		lists = append(lists, slices.Concat(mixedMarks(count, 40, 2), marksOf(count-40), mixedMarks(count+9, 40, 3)))
	}
	return append(lists, marksOf(400), marksOf(100000))
}

// eachWindow calls a test with every number of messages and every window.
func eachWindow(test func(n int, window int)) {
	for n := range 31 {
		for window := 1; window <= 8; window++ {
			test(n, window)
		}
	}
}

// eachLoss calls a test with every number of messages, every window and all lists of losses.
func eachLoss(test func(n int, window int, lost []bool)) {
	lists := lossLists()
	eachWindow(func(n int, window int) {
		for _, lost := range lists {
			test(n, window, lost)
		}
	})
}

// eachUnconfirmed calls a test with every number of messages and with pairs of lists: all short ones, those of losses alone, with themselves and with others, single marks, and mixed ones.
func eachUnconfirmed(test func(n int, lost []bool, unconfirmed []bool)) {
	short, lists := marksUpTo(5), lossLists()
	for n := range 31 {
		for _, lost := range short {
			for _, unconfirmed := range short {
				test(n, lost, unconfirmed)
			}
		}
		for k, list := range lists {
			test(n, list, nil)
			test(n, nil, list)
			test(n, list, list)
			test(n, list, lists[(7*k+5)%len(lists)])
		}
		for first := range 30 {
			for second := range 30 {
				test(n, markAt(first), markAt(second))
			}
		}
		for seed := range 200 {
			test(n, mixedMarks(seed, 320, seed%13), mixedMarks(seed+1000, 320, seed/13))
		}
	}
}

func TestStopAndWaitExamples(t *testing.T) {
	wantStop(t, 0, nil, nil, 0)
	wantStop(t, 1, nil, nil, 1, 1)
	wantStop(t, 30, nil, nil, 30, repeated(1, 30)...)
	wantStop(t, 2, marks("x"), marks(".x"), 4, 2, 1)
	wantStop(t, 3, marks("x"), nil, 4, 1, 1, 1)
	wantStop(t, 3, marks(".x"), nil, 4, 1, 1, 1)
	wantStop(t, 3, marks("..x"), nil, 4, 1, 1, 1)
	wantStop(t, 3, marks("...x"), nil, 3, 1, 1, 1)
	wantStop(t, 3, marks("xxxx"), nil, 7, 1, 1, 1)
	wantStop(t, 2, nil, marks("x"), 3, 2, 1)
	wantStop(t, 2, nil, marks(".x"), 3, 1, 2)
	wantStop(t, 2, nil, marks("..x"), 2, 1, 1)
	wantStop(t, 2, nil, marks("xxx"), 5, 4, 1)
	wantStop(t, 2, nil, marks(".xxx"), 5, 1, 4)
	wantStop(t, 3, nil, marks("x.x.x."), 6, 2, 2, 2)
	// The confirmation of a lost message does not matter.
	wantStop(t, 2, marks("x"), marks("x"), 3, 1, 1)
	wantStop(t, 2, marks(".xx"), marks(".xx"), 4, 1, 1)
	wantStop(t, 3, marks(".x.x"), marks("..x"), 6, 1, 2, 1)
	wantStop(t, 1, marks("x.x."), marks("xx.x."), 5, 3)
	wantStop(t, 1, marks("..x"), marks("xx.x"), 5, 4)
}

func TestGoBackExamples(t *testing.T) {
	wantBack(t, 0, 1, nil)
	wantBack(t, 1, 8, nil, 0)
	wantBack(t, 30, 8, nil, places(30)...)
	wantBack(t, 3, 2, marks("x"), 0, 1, 0, 1, 2)
	wantBack(t, 1, 8, marks("xx"), 0, 0, 0)
	wantBack(t, 4, 3, marks("..x"), 0, 1, 2, 2, 3)
	wantBack(t, 4, 3, marks(".x"), 0, 1, 2, 1, 2, 3)
	wantBack(t, 4, 3, marks("...x"), 0, 1, 2, 3, 3)
	wantBack(t, 4, 3, marks("....x"), 0, 1, 2, 3)
	wantBack(t, 5, 3, marks("x..x"), 0, 1, 2, 0, 1, 2, 0, 1, 2, 3, 4)
	wantBack(t, 5, 2, marks(".x.x.x"), 0, 1, 1, 2, 2, 3, 3, 4)
	wantBack(t, 3, 8, marks("xxx.x"), 0, 1, 2, 0, 1, 2, 1, 2)
	wantBack(t, 3, 1, marks("x.xx."), 0, 0, 1, 1, 1, 2)
}

func TestSelectRepeatExamples(t *testing.T) {
	wantSelect(t, 0, 1, nil)
	wantSelect(t, 1, 8, nil, 0)
	wantSelect(t, 30, 8, nil, places(30)...)
	wantSelect(t, 3, 2, marks("x"), 0, 1, 0, 2)
	wantSelect(t, 1, 8, marks("xx"), 0, 0, 0)
	wantSelect(t, 4, 3, marks("..x"), 0, 1, 2, 2, 3)
	wantSelect(t, 4, 3, marks(".x"), 0, 1, 2, 1, 3)
	wantSelect(t, 4, 3, marks("...x"), 0, 1, 2, 3, 3)
	wantSelect(t, 4, 3, marks("....x"), 0, 1, 2, 3)
	wantSelect(t, 5, 3, marks("x..x"), 0, 1, 2, 0, 0, 3, 4)
	// The windows are 0 to 2, 1 to 3, 2 to 4, and 5.
	wantSelect(t, 6, 3, marks(".xx.x"), 0, 1, 2, 1, 2, 3, 2, 4, 5)
	wantSelect(t, 3, 8, marks("xxx.x"), 0, 1, 2, 0, 1, 2, 1)
	wantSelect(t, 3, 1, marks("x.xx."), 0, 0, 1, 1, 1, 2)
	// While message 0 is missing the window does not move.
	wantSelect(t, 9, 4, marks("x...xxx"), 0, 1, 2, 3, 0, 0, 0, 0, 4, 5, 6, 7, 8)
}

// Promise 15: every message arrives at least once; without lost confirmations exactly once; the number of transmissions is the sum of the arrivals and of the lost transmissions.
func TestEveryMessageArrives(t *testing.T) {
	once, again, refused := 0, 0, 0
	eachUnconfirmed(func(n int, lost []bool, unconfirmed []bool) {
		want, transmissions := modelStop(n, lost, unconfirmed)
		arrivals := wantStop(t, n, lost, unconfirmed, transmissions, want...)
		if n > 0 && transmissions == 0 {
			refused++
			return
		}
		if len(arrivals) != n || transmissions < n || transmissions > 300 {
			t.Fatalf("%d of %d messages arrive with %d transmissions", len(arrivals), n, transmissions)
		}
		if losses := marked(padded(lost)[:transmissions]); numberSum(arrivals)+losses != transmissions {
			t.Fatalf("of %d transmissions %d arrive and %d are lost", transmissions, numberSum(arrivals), losses)
		}
		missed := 0
		for k, mark := range padded(unconfirmed)[:transmissions] {
			if mark && !padded(lost)[k] {
				missed++
			}
		}
		if numberSum(arrivals) != n+missed || n > 0 && slices.Min(arrivals) < 1 {
			t.Fatalf("with %d lost confirmations the messages arrive %v times", missed, arrivals)
		}
		if missed == 0 {
			once++
		} else {
			again++
		}
	})
	if once < 10000 || again < 10000 || refused < 5000 {
		t.Fatalf("%d runs without lost confirmations, %d with, %d refused", once, again, refused)
	}
}

// Promise 15: without lost confirmations every message arrives exactly once, whatever is lost.
func TestMessagesArriveOnce(t *testing.T) {
	for n := 1; n <= 30; n++ {
		for losses := range 301 - n {
			for _, place := range []int{0, 1, n / 2, n - 1} {
				lost := append(repeated(false, min(place, n-1)), marksOf(losses)...)
				wantStop(t, n, lost, nil, n+losses, repeated(1, n)...)
				wantStop(t, n, lost, lost, n+losses, repeated(1, n)...)
				wantStop(t, n, append(lost, repeated(false, 100)...), append(repeated(false, n+losses), marksOf(9)...), n+losses, repeated(1, n)...)
			}
		}
	}
}

// The confirmations of one message are lost, one after the other: alone, and with losses before, between and behind them.
func TestLostConfirmations(t *testing.T) {
	for n := 1; n <= 30; n++ {
		for message := range n {
			for missed := range 12 {
				want := changed(repeated(1, n), message, 1+missed)
				before := repeated(false, message)
				wantStop(t, n, nil, append(before, marksOf(missed)...), n+missed, want...)
				wantStop(t, n, slices.Concat(before, marksOf(3)), slices.Concat(before, marksOf(3+missed)), n+missed+3, want...)
				wantStop(t, n, slices.Concat(before, slices.Repeat(marks(".x"), missed)), slices.Concat(before, slices.Repeat(marks("x."), missed)), n+2*missed, want...)
				wantStop(t, n, slices.Concat(before, slices.Repeat(marks("x."), missed)), slices.Concat(before, marksOf(2*missed)), n+2*missed, want...)
				wantStop(t, n, slices.Concat(before, repeated(false, missed), marksOf(4)), slices.Concat(before, marksOf(missed)), n+missed+4, want...)
			}
		}
		wantStop(t, n, nil, slices.Repeat(marks("x."), n), 2*n, repeated(2, n)...)
		wantStop(t, n, slices.Repeat(marks("x.."), n), slices.Repeat(marks(".x."), n), 3*n, repeated(2, n)...)
		wantStop(t, n, slices.Repeat(marks(".x.."), n), slices.Repeat(marks("xxx."), n), 4*n, repeated(3, n)...)
	}
}

// Exactly MaxTries transmissions are made, but not one more.
func TestStopAndWaitTries(t *testing.T) {
	for n := 1; n <= 30; n++ {
		most := 300 - n
		for missed := range most + 1 {
			unconfirmed := append(repeated(false, most-missed), marksOf(missed)...)
			want := changed(repeated(1, n), 0, 1+missed)
			wantStop(t, n, marksOf(most-missed), unconfirmed, 300, want...)
			wantStop(t, n, marksOf(most-missed), append(unconfirmed, true), 0)
			wantStop(t, n, slices.Concat(marksOf(most-missed), markAt(missed)), unconfirmed, 0)
			// What is marked for transmissions that are not made does not matter.
			behind := append(repeated(false, 300), true, true)
			copy(behind, marksOf(most-missed))
			wantStop(t, n, behind, unconfirmed, 300, want...)
			wantStop(t, n, marksOf(most-missed), append(unconfirmed, append(repeated(false, n), marksOf(5)...)...), 300, want...)
		}
		ones := repeated(1, n)
		wantStop(t, n, append(repeated(false, n-1), marksOf(most)...), nil, 300, ones...)
		wantStop(t, n, append(repeated(false, n-1), marksOf(most+1)...), nil, 0)
		wantStop(t, n, nil, append(repeated(false, n-1), marksOf(most)...), 300, changed(ones, n-1, most+1)...)
		wantStop(t, n, nil, append(repeated(false, n-1), marksOf(most+1)...), 0)
		for place := range 300 {
			// Whichever further transmission fails, 301 are needed.
			lost := append(marksOf(most), repeated(false, n)...)
			if !lost[place] {
				wantStop(t, n, changed(lost, place, true), nil, 0)
				wantStop(t, n, lost, markAt(place), 0)
			}
		}
		wantStop(t, n, append(marksOf(most), markAt(n)...), nil, 300, ones...)
		wantStop(t, n, append(marksOf(most), markAt(n-1)...), nil, 0)
	}
	wantStop(t, 0, marksOf(400), marksOf(400), 0)
}

// Promise 16: the number of transmissions is the number of messages plus that of the lost transmissions among them; every message is transmitted, and its last transmission is not lost.
func TestOnlyLostMessagesAreRepeated(t *testing.T) {
	repeatedOnes, tries := 0, endOfTries{}
	eachLoss(func(n int, window int, lost []bool) {
		want, begins, ok := modelSelect(n, window, lost)
		sent := wantSent(t, impl.SelectRepeat, n, window, lost, ok, want...)
		tries.add(sent, begins)
		if !ok {
			return
		}
		losses := padded(lost)[:len(sent)]
		if len(sent) != n+marked(losses) {
			t.Fatalf("%d messages are sent with %d transmissions, of which %d are lost", n, len(sent), marked(losses))
		}
		arrivals := repeated(0, n)
		for k, message := range sent {
			if arrivals[message] > 0 {
				t.Fatalf("lost %s: sent %v, message %d again", textOf(lost), sent, message)
			}
			if !losses[k] {
				arrivals[message]++
			}
		}
		wantInts(t, "how often every message arrives", arrivals, repeated(1, n))
		repeatedOnes += len(sent) - n
	})
	if repeatedOnes < 100000 {
		t.Fatalf("only %d messages are repeated", repeatedOnes)
	}
	wantEndOfTries(t, tries)
}

// Promise 84: the receiver accepts in order: every message is transmitted, and the last transmission is that of the last message.
func TestReceiverAcceptsInOrder(t *testing.T) {
	more, tries := 0, endOfTries{}
	eachLoss(func(n int, window int, lost []bool) {
		want, begins, ok := modelBack(n, window, lost)
		sent := wantSent(t, impl.GoBack, n, window, lost, ok, want...)
		tries.add(sent, begins)
		if !ok {
			return
		}
		accepted, losses := 0, padded(lost)
		for k, message := range sent {
			if message < 0 || message >= n || accepted == n {
				t.Fatalf("%d messages, lost %s: sent %v", n, textOf(lost), sent)
			}
			if message == accepted && !losses[k] {
				accepted++
			}
		}
		if accepted != n || n > 0 && sent[len(sent)-1] != n-1 {
			t.Fatalf("%d messages, lost %s: sent %v, %d accepted", n, textOf(lost), sent, accepted)
		}
		if len(sent) > n+marked(losses[:len(sent)]) {
			more++
		}
	})
	if more < 10000 {
		t.Fatalf("messages that arrived are repeated in only %d runs", more)
	}
	wantEndOfTries(t, tries)
}

// Promises 84 and 121: without losses every message is transmitted once, in ascending order, with both protocols.
func TestWithoutLosses(t *testing.T) {
	eachWindow(func(n int, window int) {
		for _, length := range []int{0, 1, 2, 7, 8, 9, n - 1, n, n + 1, 299, 300, 301, 400} {
			lost := repeated(false, max(length, 0))
			wantBack(t, n, window, lost, places(n)...)
			wantSelect(t, n, window, lost, places(n)...)
		}
		// The marks are for transmissions that are not made.
		for _, behind := range [][]bool{markAt(n), append(repeated(false, n), marksOf(400)...), markAt(n + 1), markAt(n + 7)} {
			wantBack(t, n, window, behind, places(n)...)
			wantSelect(t, n, window, behind, places(n)...)
		}
		wantBack(t, n, window, nil, places(n)...)
		wantSelect(t, n, window, nil, places(n)...)
	})
}

// Promise 84: with the window 1 only lost transmissions are repeated, so both protocols are the same, and StopAndWait needs as many transmissions.
func TestWindowOne(t *testing.T) {
	lists := lossLists()
	for n := range 31 {
		for _, lost := range lists {
			var want []int
			losses, ok := padded(lost), true
			for message := 0; message < n && ok; {
				ok = len(want) < 300
				want = append(want, message)
				if !losses[len(want)-1] {
					message++
				}
			}
			if !ok {
				wantNotSent(t, n, 1, lost)
				wantStop(t, n, lost, nil, 0)
				continue
			}
			wantBack(t, n, 1, lost, want...)
			wantSelect(t, n, 1, lost, want...)
			wantStop(t, n, lost, nil, len(want), repeated(1, n)...)
		}
	}
}

// One transmission is lost: the first, the last, and each between, and the one behind them.
func TestOneLoss(t *testing.T) {
	eachWindow(func(n int, window int) {
		for place := range n {
			// Messages up to the end of the window are sent before the loss is known.
			end := min(place-place%window+window, n)
			all := places(n)
			wantBack(t, n, window, markAt(place), slices.Concat(all[:end], all[place:])...)
			wantSelect(t, n, window, markAt(place), slices.Concat(all[:end], []int{place}, all[end:])...)
			wantStop(t, n, markAt(place), nil, n+1, repeated(1, n)...)
			wantStop(t, n, nil, markAt(place), n+1, changed(repeated(1, n), place, 2)...)
		}
		wantBack(t, n, window, markAt(n), places(n)...)
		wantSelect(t, n, window, markAt(n), places(n)...)
		wantStop(t, n, markAt(n), markAt(n), n, repeated(1, n)...)
	})
}

// Whole rounds are lost, and nothing behind them.
func TestLostRounds(t *testing.T) {
	eachWindow(func(n int, window int) {
		if n == 0 {
			return
		}
		size := min(n, window)
		for rounds := range 60 {
			lost := marksOf(rounds * size)
			want := slices.Concat(slices.Repeat(places(size), rounds), places(n))
			lastBegin := rounds*size + (n-1)/window*window
			if lastBegin >= 300 {
				wantNotSent(t, n, window, lost)
				continue
			}
			wantBack(t, n, window, lost, want...)
			wantSelect(t, n, window, lost, want...)
		}
	})
}

// Rounds begin with MaxTries - 1 transmissions done, but not with MaxTries or more; the last one may go beyond MaxTries.
func TestRoundsAtTheEndOfTries(t *testing.T) {
	zeros := func(count int) []int { return repeated(0, count) }
	for _, send := range []sentInRounds{impl.GoBack, impl.SelectRepeat} {
		wantSent(t, send, 1, 1, marksOf(299), true, zeros(300)...)
		wantSent(t, send, 1, 1, marksOf(300), false)
		wantSent(t, send, 1, 8, marksOf(299), true, zeros(300)...)
		wantSent(t, send, 1, 8, marksOf(300), false)
		wantSent(t, send, 2, 1, marksOf(298), true, append(zeros(299), 1)...)
		wantSent(t, send, 2, 1, marksOf(299), false)
		wantSent(t, send, 30, 1, marksOf(270), true, append(zeros(270), places(30)...)...)
		wantSent(t, send, 30, 1, marksOf(271), false)
		wantSent(t, send, 2, 2, marksOf(298), true, slices.Repeat(places(2), 150)...)
		wantSent(t, send, 2, 2, append(marksOf(298), marks(".x")...), false)
		wantSent(t, send, 6, 6, marksOf(294), true, slices.Repeat(places(6), 50)...)
		wantSent(t, send, 6, 6, append(marksOf(294), markAt(5)...), false)
		wantSent(t, send, 7, 7, marksOf(294), true, slices.Repeat(places(7), 43)...)
		wantSent(t, send, 7, 7, append(marksOf(294), markAt(6)...), false)
		wantSent(t, send, 7, 7, append(marksOf(294), markAt(7)...), true, slices.Repeat(places(7), 43)...)
		wantSent(t, send, 8, 8, marksOf(296), true, slices.Repeat(places(8), 38)...)
		wantSent(t, send, 9, 8, marksOf(296), false)
		wantSent(t, send, 9, 8, marksOf(288), true, append(slices.Repeat(places(8), 37), 8)...)
		// 33 rounds of eight messages and 5 of seven make 299; the last round then makes 306.
		seven := slices.Repeat(places(15)[8:], 6)
		lost := slices.Concat(marksOf(256), repeated(false, 8), marksOf(35))
		wantSent(t, send, 15, 8, lost, true, slices.Concat(slices.Repeat(places(8), 33), seven)...)
		for place := range 7 {
			wantSent(t, send, 15, 8, append(lost, markAt(place)...), false)
		}
		wantSent(t, send, 15, 8, append(lost, markAt(7)...), true, slices.Concat(slices.Repeat(places(8), 33), seven)...)
	}
	// Message 0 alone is missing until 299 or 300 transmissions are done.
	first := marks("x.......")
	want := slices.Concat(places(8), zeros(291), places(16)[8:])
	wantSelect(t, 16, 8, append(first, marksOf(290)...), want...)
	wantSent(t, impl.SelectRepeat, 16, 8, append(first, marksOf(291)...), false)
	wantSent(t, impl.SelectRepeat, 17, 8, append(first, marksOf(290)...), false)
	for place := range 8 {
		wantSent(t, impl.SelectRepeat, 16, 8, slices.Concat(first, marksOf(290), repeated(false, 1), markAt(place)), false)
	}
	wantSelect(t, 16, 8, slices.Concat(first, marksOf(290), repeated(false, 1), markAt(8)), want...)
	wantSelect(t, 8, 8, append(first, marksOf(291)...), append(places(8), zeros(292)...)...)
	wantSent(t, impl.SelectRepeat, 8, 8, append(first, marksOf(292)...), false)
}

func TestMessagesOutOfRange(t *testing.T) {
	lists := [][]bool{nil, {true}, {false}, marksOf(299), marksOf(400), repeated(false, 400)}
	for _, n := range outside(0, 30) {
		for _, lost := range lists {
			for window := range 11 {
				wantNotSent(t, n, window-1, lost)
			}
			for _, unconfirmed := range lists {
				wantStop(t, n, lost, unconfirmed, 0)
			}
		}
	}
}

func TestWindowsOutOfRange(t *testing.T) {
	lists := [][]bool{nil, {true}, {false}, marksOf(299), marksOf(400), repeated(false, 400)}
	for _, window := range outside(1, 8) {
		for n := -1; n <= 31; n++ {
			for _, lost := range lists {
				wantNotSent(t, n, window, lost)
			}
		}
	}
	for _, window := range []int{0, -1, 9} {
		wantNotSent(t, 0, window, nil)
		wantNotSent(t, 1, window, nil)
		wantNotSent(t, 30, window, nil)
	}
}

// Nothing ever arrives, or nothing is ever confirmed; without messages this does not matter.
func TestAllTransmissionsLost(t *testing.T) {
	for _, count := range []int{300, 301, 307, 308, 400, 1000, 1000000} {
		all := marksOf(count)
		for n := 1; n <= 30; n++ {
			wantStop(t, n, all, nil, 0)
			wantStop(t, n, nil, all, 0)
			wantStop(t, n, all, all, 0)
		}
		wantStop(t, 0, all, all, 0)
		eachWindow(func(n int, window int) {
			if n == 0 {
				wantBack(t, n, window, all)
				wantSelect(t, n, window, all)
			} else {
				wantNotSent(t, n, window, all)
			}
		})
	}
	for place := range 308 {
		// One transmission alone arrives, which is enough only for a single message before the tries end.
		all := changed(marksOf(400), place, false)
		if place < 300 {
			wantBack(t, 1, 8, all, repeated(0, place+1)...)
			wantSelect(t, 1, 8, all, repeated(0, place+1)...)
			wantStop(t, 1, all, nil, place+1, 1)
			wantStop(t, 1, nil, all, place+1, place+1)
		} else {
			wantNotSent(t, 1, 8, all)
			wantStop(t, 1, all, nil, 0)
			wantStop(t, 1, nil, all, 0)
		}
		for window := 1; window <= 8; window++ {
			for _, n := range []int{2, 3, 8, 9, 30} {
				wantNotSent(t, n, window, all)
			}
		}
	}
}

// Marks in the spare capacity of a list are not values of it.
func TestLossesBehindTheListDoNotCount(t *testing.T) {
	lists := [][]bool{{}, marks("x"), marks(".x"), marks("x.x"), marks("..x.x..")}
	for _, list := range lists {
		short := append(slices.Clone(list), marksOf(400)...)[:len(list)]
		eachWindow(func(n int, window int) {
			want, _, _ := modelBack(n, window, list)
			wantBack(t, n, window, short, want...)
			want, _, _ = modelSelect(n, window, list)
			wantSelect(t, n, window, short, want...)
			arrivals, count := modelStop(n, list, list)
			wantStop(t, n, short, short, count, arrivals...)
			arrivals, count = modelStop(n, nil, list)
			wantStop(t, n, nil, short, count, arrivals...)
		})
	}
}

func wantMarks(t *testing.T, name string, got []bool, want []bool) {
	t.Helper()
	if !slices.Equal(got, want) {
		t.Fatalf("%s: got %v, want %v", name, got, want)
	}
}

func TestRepetitionArgumentsAreNotWritten(t *testing.T) {
	lists := append(lossLists(), marks(strings.Repeat("x.", 200)))
	for k, list := range lists {
		for _, guard := range []bool{false, true} {
			lost, whole := guarded(list, guard)
			unconfirmed, other := guarded(lists[(3*k+1)%len(lists)], guard)
			for _, n := range []int{-1, 0, 1, 5, 30, 31} {
				for _, window := range []int{0, 1, 3, 8, 9} {
					back, _ := impl.GoBack(n, window, lost)
					selected, _ := impl.SelectRepeat(n, window, lost)
					overwrite(back, -5)
					overwrite(selected, -6)
				}
				for _, second := range [][]bool{nil, unconfirmed, lost} {
					arrivals, _ := impl.StopAndWait(n, lost, second)
					overwrite(arrivals, -7)
				}
			}
			wantMarks(t, "the losses, and what is behind them", whole, append(slices.Clone(list), guard, guard, guard, guard))
			wantMarks(t, "the lost confirmations, and what is behind them", other, append(slices.Clone(lists[(3*k+1)%len(lists)]), guard, guard, guard, guard))
		}
	}
}

func TestRepetitionResultsAreNewMemory(t *testing.T) {
	for _, lost := range lossLists() {
		for _, n := range []int{0, 1, 2, 7, 16, 30} {
			for _, window := range []int{1, 4, 8} {
				for _, send := range []sentInRounds{impl.GoBack, impl.SelectRepeat} {
					sent, ok := send(n, window, lost)
					want := slices.Clone(sent)
					again, _ := send(n, window, lost)
					overwrite(again, -7)
					wantInts(t, "the transmissions", sent, want)
					overwrite(sent, -8)
					wantSent(t, send, n, window, lost, ok, want...)
				}
			}
			arrivals, count := impl.StopAndWait(n, lost, marks(".x"))
			want := slices.Clone(arrivals)
			again, _ := impl.StopAndWait(n, lost, marks(".x"))
			overwrite(again, -7)
			wantInts(t, "the arrivals", arrivals, want)
			overwrite(arrivals, -8)
			wantStop(t, n, lost, marks(".x"), count, want...)
		}
	}
}

// A call does not depend on the calls before it.
func TestRepetitionKeepsNoState(t *testing.T) {
	for _, lost := range marksUpTo(6) {
		arrivals, count := modelStop(5, lost, marks(".x"))
		back, _, _ := modelBack(5, 3, lost)
		selected, _, _ := modelSelect(5, 3, lost)
		for _, other := range [][]bool{nil, marks("x.x"), marksOf(400)} {
			for _, n := range []int{-1, 0, 5, 30, 31} {
				impl.StopAndWait(n, other, other)
				impl.GoBack(n, 3, other)
				impl.SelectRepeat(n, 3, other)
				impl.GoBack(n, 9, other)
				impl.SelectRepeat(n, 0, other)
			}
			wantStop(t, 5, lost, marks(".x"), count, arrivals...)
			wantBack(t, 5, 3, lost, back...)
			wantSelect(t, 5, 3, lost, selected...)
		}
	}
}
