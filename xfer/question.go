package xfer

import (
	"packhorse/files"
	"packhorse/num"
	"packhorse/sign"
)

// question that was asked, and when.
type question struct {
	line files.Line
	at   int
}

// listLine stands for the list of the source's files: no file has its name.
func listLine() files.Line { return files.Line{} }

func isList(line files.Line) bool { return line.Name == "" }

func kindOf(line files.Line) byte {
	if isList(line) {
		return kindList
	}
	return kindDelta
}

// question as bytes: of a file its name, and the signature of what is there of that name (of no bytes, if there is none).
func (d *destination) question(line files.Line) (string, error) {
	if isList(line) {
		return "", nil
	}
	name, err := num.PutText(line.Name)
	if err != nil {
		return "", err
	}
	old, _ := files.Get(d.files, line.Name)
	size := sign.Size(len(old))
	blocks, err := sign.Of(old, size)
	if err != nil {
		return "", err
	}
	signature, err := sign.Text(blocks, size)
	if err != nil {
		return "", err
	}
	return name + signature, nil
}
