package races

// sets holds all tasks that have begun, in sets that are joined and never split. In each set the tasks' deeds are either all ahead of what the current task does next, or all parallel to it.
type sets struct {
	ups   []int  // by task, one that it was joined to; itself, if it is its set's root
	marks []bool // by root, whether its set is parallel to what comes next
	lates []int  // by task, one of the set that it has to wait for: its children that have returned since its last wait, and what they waited for; or none
}

// begin takes in a task, and tells its number.
func (s *sets) begin() int {
	task := len(s.ups)
	s.ups = append(s.ups, task)
	s.marks = append(s.marks, false)
	s.lates = append(s.lates, none)
	return task
}

// root walks to the root of a task's set, and leaves a shorter way behind.
func (s *sets) root(task int) int {
	for s.ups[task] != task {
		s.ups[task] = s.ups[s.ups[task]]
		task = s.ups[task]
	}
	return task
}

// parallel tells whether a task's deeds are parallel to what comes next.
func (s *sets) parallel(task int) bool { return s.marks[s.root(task)] }

// wait lets the current task wait for its children: what they did is ahead of what comes next, as its own deeds are.
func (s *sets) wait(task int) {
	if late := s.lates[task]; late != none {
		s.join(task, late)
		s.lates[task] = none
	}
}

// end ends the current task behind a last wait: its set is one that its parent has to wait for.
func (s *sets) end(task, parent int) {
	s.wait(task)
	s.marks[s.root(task)] = true
	if late := s.lates[parent]; late != none {
		s.join(late, task)
	}
	s.lates[parent] = task
}

// join joins the set of the second task to that of the first one, which keeps its mark.
func (s *sets) join(first, second int) { s.ups[s.root(second)] = s.root(first) }
