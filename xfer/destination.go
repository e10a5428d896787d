package xfer

import (
	"slices"

	"packhorse/api"
	"packhorse/delta"
	"packhorse/files"
	"packhorse/frame"
	"packhorse/patch"
	"packhorse/sign"
	"packhorse/tape"
)

// destination has files and a tape, which stay, and a life, which it loses when it begins anew.
type destination struct {
	files []api.File
	disk  *tape.Disk
	send  func(frame.Frame)
	life
}

func newDestination(l []api.File, send func(frame.Frame)) *destination {
	d := &destination{files: slices.Clone(l), disk: emptyDisk(), send: send}
	d.begin()
	return d
}

// begin anew, in an epoch of its own: what was asked in an earlier life is answered in that one's epoch.
func (d *destination) begin() {
	d.life = newLife(d.openEpoch())
	d.wanted = []files.Line{listLine()}
	d.ask()
}

// hasAll: no answer is still to come. The list was wanted from the beginning, and what it told to be wanted has come behind it.
func (d *destination) hasAll() bool { return len(d.wanted) == 0 && len(d.asked) == 0 }

// ask for what is wanted, as long as more may be under way.
func (d *destination) ask() {
	for len(d.wanted) > 0 && len(d.asked) < d.flow.Window() {
		line := d.wanted[0]
		text, err := d.question(line)
		if err != nil {
			return
		}
		n, err := d.out.Push(text)
		if err != nil { // its turn comes when the oldest one is answered
			return
		}
		d.wanted = d.wanted[1:]
		d.asked[n] = question{line: line}
		d.put(n)
	}
}

// put a question on the net, for the first time, or again.
func (d *destination) put(n int) {
	q := d.asked[n]
	q.at = d.now
	d.asked[n] = q
	text, _ := d.out.Data(n)
	d.send(frame.Frame{Kind: kindOf(q.line), Epoch: d.epochs.Last(token), Seq: n, Data: text})
}

// tick: the oldest question whose answer did not come in time is asked again.
func (d *destination) tick() {
	d.now++
	for _, n := range d.out.Kept() {
		if d.now-d.asked[n].at >= d.flow.Wait() {
			d.flow.Bad()
			d.put(n)
			return
		}
	}
}

// take an answer. One of another epoch, or one that came already, is let go.
func (d *destination) take(f frame.Frame) {
	q, is := d.asked[f.Seq]
	if !is || d.epochs.Admit(token, f.Epoch) != nil || f.Kind != kindOf(q.line) {
		return
	}
	d.answered(f.Seq)
	if d.learn(q.line, f.Data) != nil {
		d.wanted = append(d.wanted, q.line)
	}
	d.ask()
}

// learn from an answer. With an error it told nothing.
func (d *destination) learn(line files.Line, answer string) error {
	if isList(line) {
		return d.learnList(answer)
	}
	return d.learnFile(line, answer)
}

// learnList: what the source does not have goes at once, so that there is room for what it has.
func (d *destination) learnList(answer string) error {
	there, err := files.Read(answer)
	if err != nil {
		return err
	}
	here, err := files.List(d.files)
	if err != nil {
		return err
	}
	steps, err := files.Plan(there, here)
	if err != nil {
		return err
	}
	lines := map[string]files.Line{}
	for _, line := range there {
		lines[line.Name] = line
	}
	for _, step := range steps {
		switch step.Kind {
		case files.KindDrop:
			d.files = files.Drop(d.files, step.Name)
		case files.KindSend:
			d.wanted = append(d.wanted, lines[step.Name])
		}
	}
	return nil
}

// learnFile puts a file together from the one that is there: it takes that one's place only if it is whole.
func (d *destination) learnFile(line files.Line, answer string) error {
	ops, err := delta.Read(answer)
	if err != nil {
		return err
	}
	old, _ := files.Get(d.files, line.Name)
	whole, err := patch.Whole(old, sign.Size(len(old)), ops, line.N, line.Sum)
	if err != nil {
		return err
	}
	l, err := files.Put(d.files, line.Name, whole)
	if err != nil {
		return err
	}
	d.files = l
	return nil
}
