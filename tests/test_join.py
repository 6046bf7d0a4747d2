import unittest

from calls import CallCase, of, text_answer
from shorttextsdesk.texts import join


class JoinTest(CallCase):
    def joined(self, a, b, wanted):
        self.check(join, (a, b), text_answer(wanted))

    def test_both_empty(self):
        self.check(join, ([], []), [0])

    def test_one_empty(self):
        self.check(join, ([7], []), [1, 7])
        self.check(join, ([], [7]), [1, 7])
        full = list(range(31))
        self.joined(full, [], full)
        self.joined([], full, full)

    def test_a_then_b(self):
        self.check(join, (of("ab"), of("cd")), [4, 97, 98, 99, 100])
        self.check(join, (of("cd"), of("ab")), [4, 99, 100, 97, 98])

    def test_any_bytes(self):
        self.check(join, ([0, 255], [255, 0, 128]), [5, 0, 255, 255, 0, 128])

    def test_the_same_list_twice(self):
        text = [1, 2]
        self.assertEqual(join(text, text), [4, 1, 2, 1, 2])
        self.assertEqual(text, [1, 2])

    def test_just_31(self):
        self.joined(list(range(16)), list(range(100, 115)), list(range(16)) + list(range(100, 115)))
        self.joined(list(range(30)), [200], list(range(30)) + [200])

    def test_more_than_31_is_cut(self):
        self.joined(list(range(16)), list(range(100, 116)), list(range(16)) + list(range(100, 115)))
        self.joined(list(range(31)), [200], list(range(31)))
        self.joined([200], list(range(31)), [200] + list(range(30)))

    def test_two_of_31(self):
        self.joined(list(range(31)), list(range(100, 131)), list(range(31)))

    def test_all_lengths(self):
        for long_a in range(32):
            for long_b in range(32):
                a = list(range(long_a))
                b = list(range(100, 100 + long_b))
                wanted = [a[i] if i < long_a else b[i - long_a] for i in range(min(31, long_a + long_b))]
                self.joined(a, b, wanted)


if __name__ == "__main__":
    unittest.main()
