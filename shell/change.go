package shell

import "valise/api"

// How an entry is added where the line says no more: packed at level 6, at the earliest time.
const (
	usualLevel = 6
	firstYear  = 1980
)

// add puts an entry.
func (s *session) add(o order) (string, error) {
	name, text := o.texts[0], []byte(o.texts[1])
	if s.begun {
		return s.keep(api.Step{Kind: api.StepAdd, Name: name, Data: text, How: howOf(o)})
	}
	return s.sized(s.archive.Add(name, text, howOf(o)))
}

// howOf tells how an entry is to be added, by the words behind its name and text.
func howOf(o order) api.How {
	n := [...]int{api.MethodDeflate, usualLevel, firstYear, 1, 1, 0, 0, 0, 0}
	copy(n[:], o.numbers)
	how := api.How{Method: n[0], Level: n[1], Mode: n[8]}
	how.Stamp = api.Stamp{Year: n[2], Month: n[3], Day: n[4], Hour: n[5], Minute: n[6], Second: n[7]}
	if len(o.texts) > 2 {
		how.Note = o.texts[2]
	}
	return how
}

// remove removes an entry.
func (s *session) remove(o order) (string, error) {
	if s.begun {
		return s.keep(api.Step{Kind: api.StepDelete, Name: o.texts[0]})
	}
	return s.sized(s.archive.Delete(o.texts[0]))
}

// rename gives an entry another name.
func (s *session) rename(o order) (string, error) {
	if s.begun {
		return s.keep(api.Step{Kind: api.StepRename, Name: o.texts[0], To: o.texts[1]})
	}
	return s.sized(s.archive.Rename(o.texts[0], o.texts[1]))
}

// compact removes all gaps.
func (s *session) compact(order) (string, error) { return s.sized(s.archive.Compact()) }

// setNote gives the archive another comment.
func (s *session) setNote(o order) (string, error) { return s.sized(s.archive.SetNote(o.texts[0])) }

// begin begins a batch.
func (s *session) begin(order) (string, error) {
	s.begun = true
	return okLine(), nil
}

// keep notes a step for the batch.
func (s *session) keep(step api.Step) (string, error) {
	s.steps = append(s.steps, step)
	return okLine(), nil
}

// commit makes what is noted, at one stroke.
func (s *session) commit(order) (string, error) {
	return s.sized(s.archive.Batch(s.endBatch()...))
}

// drop leaves what is noted.
func (s *session) drop(order) (string, error) {
	s.endBatch()
	return okLine(), nil
}

// endBatch ends the batch, and tells what was noted for it.
func (s *session) endBatch() []api.Step {
	steps := s.steps
	s.begun, s.steps = false, nil
	return steps
}

// sized tells the file's size behind a change that went well.
func (s *session) sized(err error) (string, error) {
	if err != nil {
		return "", err
	}
	size, err := s.archive.Size()
	return okLine(size), err
}
