"""Queens and knights: two old puzzles on boards."""
