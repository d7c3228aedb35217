package works

import (
	"strings"

	"gherkin/api"
)

// readBooks does all changes of the books.
func (w *Works) readBooks() {
	for number, p := range w.disk.pages {
		change, found := strings.CutPrefix(p.text, heading(number))
		if !found {
			return
		}
		next, _, e := w.state.after(change)
		if e != api.OK {
			return
		}
		w.state = next
		w.journal = append(w.journal, change)
	}
}

// emptyRest empties the pages behind the books. They are made safe at once: else one
// of them could come back and continue books that have grown up to it.
func (w *Works) emptyRest() api.Errno {
	wrote := false
	for number := len(w.journal); number < len(w.disk.pages); number++ {
		if w.disk.pages[number].text == "" {
			continue
		}
		if e := w.disk.Write(number, ""); e != api.OK {
			return e
		}
		wrote = true
	}
	if !wrote {
		return api.OK
	}
	return w.disk.Sync()
}
