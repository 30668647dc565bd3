package sh

import (
	"strings"

	"bobstay/api"
	"bobstay/num"
	"bobstay/vfs"
)

// What a command comes to.
const (
	well    = 0
	failed  = 1   // also what is not so
	misused = 2   // words behind it that it does not know
	unknown = 127 // no command of that name

	maxStatus = 255
	// most is how much of what a command says is kept: a file is refused a
	// text of so many bytes, whatever stands behind.
	most = api.MaxText + 1
)

// work is a command at work.
type work struct {
	store  *vfs.Store
	status int // that of the command ahead
	input  string
	said   []byte
	over   bool // no further command is run
}

// run runs a command, from its input to its output, and is its status.
func (w *work) run(c command) int {
	if c.in.sign != "" {
		text, e := w.store.Read(c.in.path)
		if e != api.OK {
			return failed
		}
		w.input = text
	}
	status := w.do(c.words)
	if !w.tell(c.out) {
		return failed
	}
	return status
}

// tell writes what was said into the output, if there is one, and tells
// whether that went well.
func (w *work) tell(out end) bool {
	switch out.sign {
	case ">":
		return w.store.Write(out.path, string(w.said)) == api.OK
	case ">>":
		return w.store.Append(out.path, string(w.said)) == api.OK
	}
	return true
}

// do does what a command's words ask for.
func (w *work) do(words []string) int {
	if len(words) == 0 {
		return well
	}
	l := words[1:]
	switch words[0] {
	case "true", ":":
		return well
	case "false":
		return alone(l, failed)
	case "echo":
		return w.echo(l)
	case "cat":
		return w.cat(l)
	case "cp":
		return pair(l, w.copy)
	case "mv":
		return pair(l, w.store.Move)
	case "rm":
		return w.rm(l)
	case "touch":
		return each(l, w.store.Touch)
	case "mkdir":
		return w.mkdir(l)
	case "test":
		return w.test(l)
	case "exit":
		return w.exit(l)
	}
	return unknown
}

// alone is the status of a command that takes no words.
func alone(l []string, status int) int {
	if len(l) > 0 {
		return misused
	}
	return status
}

// each goes through paths, up to the first one that is refused.
func each(paths []string, do func(p string) api.Errno) int {
	if len(paths) == 0 {
		return misused
	}
	for _, p := range paths {
		if do(p) != api.OK {
			return failed
		}
	}
	return well
}

// pair does with two paths.
func pair(paths []string, do func(p, q string) api.Errno) int {
	if len(paths) != 2 {
		return misused
	}
	if do(paths[0], paths[1]) != api.OK {
		return failed
	}
	return well
}

// flag takes a flag off the words, if it is first.
func flag(l []string, name string) ([]string, bool) {
	if len(l) > 0 && l[0] == name {
		return l[1:], true
	}
	return l, false
}

// truth is the status of what is so, or not.
func truth(so bool) int {
	if so {
		return well
	}
	return failed
}

// say says a text.
func (w *work) say(s string) {
	w.said = add(w.said, s, most)
}

func (w *work) echo(l []string) int {
	l, short := flag(l, "-n")
	w.say(strings.Join(l, " "))
	if !short {
		w.say("\n")
	}
	return well
}

func (w *work) cat(l []string) int {
	if len(l) == 0 {
		w.say(w.input)
		return well
	}
	return each(l, w.sayFile)
}

func (w *work) sayFile(p string) api.Errno {
	text, e := w.store.Read(p)
	w.say(text)
	return e
}

func (w *work) copy(p, q string) api.Errno {
	text, e := w.store.Read(p)
	if e != api.OK {
		return e
	}
	return w.store.Write(q, text)
}

func (w *work) rm(l []string) int {
	if l, loose := flag(l, "-f"); loose {
		return each(l, w.clear)
	}
	return each(l, w.store.Remove)
}

// clear removes what is at a path, if there is something.
func (w *work) clear(p string) api.Errno {
	if e := w.store.Remove(p); e != api.ErrNone {
		return e
	}
	return api.OK
}

func (w *work) mkdir(l []string) int {
	if l, loose := flag(l, "-p"); loose {
		return each(l, w.ensure)
	}
	return each(l, w.store.Mkdir)
}

// ensure makes a directory, if it is not there.
func (w *work) ensure(p string) api.Errno {
	if w.isDir(p) {
		return api.OK
	}
	return w.store.Mkdir(p)
}

func (w *work) test(l []string) int {
	if len(l) == 3 {
		switch l[1] {
		case "=":
			return truth(l[0] == l[2])
		case "!=":
			return truth(l[0] != l[2])
		}
	}
	if len(l) != 2 {
		return misused
	}
	switch l[0] {
	case "-e":
		return truth(w.isFile(l[1]) || w.isDir(l[1]))
	case "-f":
		return truth(w.isFile(l[1]))
	case "-d":
		return truth(w.isDir(l[1]))
	case "-n":
		return truth(l[1] != "")
	case "-z":
		return truth(l[1] == "")
	}
	return misused
}

func (w *work) isFile(p string) bool {
	_, dir, e := w.store.Stat(p)
	return e == api.OK && !dir
}

func (w *work) isDir(p string) bool {
	_, dir, e := w.store.Stat(p)
	return e == api.OK && dir
}

func (w *work) exit(l []string) int {
	status, e := w.exitStatus(l)
	w.over = e == api.OK
	return status
}

// exitStatus is the number that exit's words tell.
func (w *work) exitStatus(l []string) (int, api.Errno) {
	if len(l) == 0 {
		return w.status, api.OK
	}
	n, e := num.Parse(l[0])
	if len(l) > 1 || e != api.OK || n < 0 || n > maxStatus {
		return misused, api.ErrArg
	}
	return n, api.OK
}
