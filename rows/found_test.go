package rows

import (
	"testing"

	"groove/words"
)

// found is a row of which all is known but the symbols told.
func found(row Row, lost ...int) Found {
	var all Found
	for j, symbol := range row {
		all[j] = words.Found{Byte: symbol, Known: true}
	}
	for _, j := range lost {
		all[j] = words.Found{}
	}
	return all
}

func TestSettle(t *testing.T) {
	right := Row{1, 2, 4, 8, 16, 32, 63}
	wrong := Row{1, 2, 4, 8, 16, 32, 62}
	all := [6]bool{true, true, true, true, true, true}
	for _, c := range []struct {
		what string
		row  Found
		want Settled
	}{
		{"all known", found(right), Settled{Samples: "\x01\x02\x04\x08\x10\x20"}},
		{"all noughts", found(Row{}), Settled{Samples: "\x00\x00\x00\x00\x00\x00"}},
		{"a wrong check", found(wrong), Settled{Samples: "\x01\x02\x04\x08\x10\x20", Bad: all}},
		{"a wrong sample", found(Row{1, 2, 5, 8, 16, 32, 63}), Settled{Samples: "\x01\x02\x05\x08\x10\x20", Bad: all}},
		{"sample 0 lost", found(right, 0), Settled{Samples: "\x01\x02\x04\x08\x10\x20", Restored: true}},
		{"sample 5 lost", found(right, 5), Settled{Samples: "\x01\x02\x04\x08\x10\x20", Restored: true}},
		{"the check lost", found(right, 6), Settled{Samples: "\x01\x02\x04\x08\x10\x20", Restored: true}},
		{"a sample lost beside a wrong check", found(wrong, 2), Settled{Samples: "\x01\x02\x05\x08\x10\x20", Restored: true}},
		{"a wrong check lost", found(wrong, 6), Settled{Samples: "\x01\x02\x04\x08\x10\x20", Restored: true}},
		{"a nought lost", found(Row{1, 0, 0, 0, 0, 0, 1}, 3), Settled{Samples: "\x01\x00\x00\x00\x00\x00", Restored: true}},
		{"two samples lost", found(right, 1, 4), Settled{Samples: "\x01\x00\x04\x08\x00\x20", Bad: [6]bool{1: true, 4: true}}},
		{"a sample and the check lost", found(right, 5, 6), Settled{Samples: "\x01\x02\x04\x08\x10\x00", Bad: [6]bool{5: true}}},
		{"two lost beside a wrong check", found(wrong, 0, 1), Settled{Samples: "\x00\x00\x04\x08\x10\x20", Bad: [6]bool{true, true}}},
		{"all lost", Found{}, Settled{Samples: "\x00\x00\x00\x00\x00\x00", Bad: all}},
		{"all samples lost", found(right, 0, 1, 2, 3, 4, 5), Settled{Samples: "\x00\x00\x00\x00\x00\x00", Bad: all}},
	} {
		if got := c.row.Settle(); got != c.want {
			t.Errorf("P5: %s: %v, want %v", c.what, got, c.want)
		}
	}
}

func TestSettleEveryChoice(t *testing.T) {
	right := Cut("sample")[0]
	for choice := range 1 << Symbols {
		var lost []int
		for j := range Symbols {
			if choice>>j&1 == 1 {
				lost = append(lost, j)
			}
		}
		got := found(right, lost...).Settle()
		if got.Restored != (len(lost) == 1) {
			t.Errorf("P5: without %v: restored is %v", lost, got.Restored)
		}
		for place := range 6 {
			bad := len(lost) > 1 && choice>>place&1 == 1
			if got.Bad[place] != bad || !bad && got.Samples[place] != right[place] {
				t.Errorf("P5: without %v: sample %d is %d, bad %v, want bad %v", lost, place, got.Samples[place], got.Bad[place], bad)
			}
		}
	}
}

func TestCount(t *testing.T) {
	for samples, want := range map[int]int{0: 0, 1: 1, 5: 1, 6: 1, 7: 2, 12: 2, 13: 3, 239: 40, 240: 40} {
		if got := Count(samples); got != want {
			t.Errorf("P5: %d samples take %d rows, want %d", samples, got, want)
		}
	}
}
