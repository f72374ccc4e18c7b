package rows

import (
	"groove/api"
	"groove/words"
)

// Found is a row as it was found in a track.
type Found [Symbols]words.Found

// Settled is what came of a row that was found: the samples that are not bad
// are as they were read, or restored.
type Settled struct {
	Samples  string
	Bad      [api.RowSize]bool
	Restored bool
}

// Settle tells what comes of a row: one symbol that is lost is restored; if
// more are, these samples are bad; if the check is wrong, all are.
func (found Found) Settle() Settled {
	row, lost := found.row(), found.lost()
	if len(lost) == 1 {
		row.restore(lost[0])
		return Settled{Samples: row.samples(), Restored: true}
	}
	settled := Settled{Samples: row.samples()}
	allBad := len(lost) == 0 && !row.isRight()
	for place := range settled.Bad {
		settled.Bad[place] = allBad || found[place].Lost()
	}
	return settled
}

// row tells the symbols, 0 where they are lost.
func (found Found) row() Row {
	var row Row
	for j, symbol := range found {
		row[j] = symbol.Byte
	}
	return row
}

func (found Found) lost() []int {
	var places []int
	for j, symbol := range found {
		if symbol.Lost() {
			places = append(places, j)
		}
	}
	return places
}

func (row Row) samples() string {
	return string(row[:check])
}

// isRight holds a row against the one that its samples are cut into: they
// differ in the check, or not at all.
func (row Row) isRight() bool {
	return row == Cut(row.samples())[0]
}

// restore works for the check as for a sample, since the exclusive or of all
// seven symbols is 0.
func (row *Row) restore(lost int) {
	restored := byte(0)
	for j, symbol := range row {
		if j != lost {
			restored ^= symbol
		}
	}
	row[lost] = restored
}
