import unittest

from calls import LEAST, MOST, CallCase, of, text_answer
from shorttextsdesk.texts import part

WORD = of("abcde")
FULL = list(range(100, 131))


class PartTest(CallCase):
    def parted(self, begin, n, t, wanted):
        self.check(part, (begin, n, t), text_answer(wanted))

    def test_within(self):
        self.check(part, (1, 3, WORD), [3, 98, 99, 100])
        self.parted(0, 1, WORD, of("a"))
        self.parted(4, 1, WORD, of("e"))
        self.parted(0, 5, WORD, WORD)

    def test_at_and_behind_the_end(self):
        self.check(part, (5, 3, WORD), [0])
        self.parted(6, 3, WORD, [])
        self.parted(31, 1, FULL, [])
        self.parted(30, 1, FULL, [130])

    def test_begin_below_0_counts_what_is_before_in_n(self):
        self.parted(-2, 5, WORD, of("abc"))
        self.parted(-1, 2, WORD, of("a"))
        self.parted(-2, 100, WORD, WORD)

    def test_begin_below_0_and_nothing_left(self):
        self.parted(-2, 2, WORD, [])
        self.parted(-2, 1, WORD, [])
        self.parted(-5, 3, WORD, [])
        self.parted(-100, 3, WORD, [])

    def test_n_0(self):
        for begin in (-3, 0, 2, 5, 9):
            self.parted(begin, 0, WORD, [])

    def test_n_below_0(self):
        for begin in (-3, 0, 2, 4, 5, 9):
            for n in (-1, -2, -4, -100):
                self.parted(begin, n, WORD, [])

    def test_n_past_the_end(self):
        self.parted(3, 3, WORD, of("de"))
        self.parted(3, 100, WORD, of("de"))
        self.parted(0, 6, WORD, WORD)
        self.parted(0, 100, FULL, FULL)

    def test_the_empty_text(self):
        for begin in (LEAST, -1, 0, 1, MOST):
            for n in (LEAST, -1, 0, 1, MOST):
                self.parted(begin, n, [], [])

    def test_ends_of_the_ranges(self):
        self.parted(0, MOST, WORD, WORD)
        self.parted(2, MOST, WORD, of("cde"))
        self.parted(-1, MOST, WORD, WORD)
        self.parted(MOST, MOST, WORD, [])
        self.parted(MOST, 1, WORD, [])
        self.parted(MOST, LEAST, WORD, [])
        self.parted(LEAST, MOST, WORD, [])
        self.parted(LEAST, LEAST, WORD, [])
        self.parted(LEAST + 1, MOST, WORD, [])
        self.parted(LEAST + 2, MOST, WORD, of("a"))
        self.parted(0, LEAST, WORD, [])
        self.parted(2, LEAST, WORD, [])

    def test_byte_by_byte(self):
        for t in ([], [0], WORD, FULL):
            for begin in range(-35, 36):
                for n in range(-35, 70, 3):
                    wanted = [t[i] for i in range(begin, begin + n) if 0 <= i < len(t)]
                    self.parted(begin, n, t, wanted)


if __name__ == "__main__":
    unittest.main()
