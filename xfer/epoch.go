package xfer

import (
	"packhorse/gate"
	"packhorse/tape"
)

const (
	token      = "source" // whose answers the epochs are of
	maxRecords = 100      // of the tape, which is begun anew then: its last record tells all
)

func emptyDisk() *tape.Disk {
	d, _ := tape.NewDisk("")
	return d
}

// openEpoch that is above those of all earlier lives: the tape remembers the last one. (Beyond api.MaxEpoch lives it stays that one.)
func (d *destination) openEpoch() *gate.Gate {
	records, _ := tape.Recover(d.disk)
	epochs := lastGate(records)
	epochs.Open(token)
	if len(records) >= maxRecords {
		d.disk = emptyDisk()
	}
	tape.Append(d.disk, epochs.Text())
	return epochs
}

// lastGate of a tape's records: a new one, if there is none yet.
func lastGate(records []string) *gate.Gate {
	if len(records) == 0 {
		return gate.New()
	}
	g, err := gate.Read(records[len(records)-1])
	if err != nil {
		return gate.New()
	}
	return g
}
