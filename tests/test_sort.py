import itertools
import unittest

from calls import CallCase, of, texts_answer
from shorttextsdesk.texts import compare, sort


class SortTest(CallCase):
    def sorts(self, rows, wanted):
        self.check(sort, (rows,), texts_answer(wanted))

    def written(self, rows, wanted):
        self.sorts([of(row) for row in rows], [of(row) for row in wanted])

    def test_several_rows(self):
        self.check(sort, ([[98], [97, 99]],), [2, 2, 97, 99, 1, 98])
        self.written(["pear", "apple", "fig"], ["apple", "fig", "pear"])

    def test_no_rows(self):
        self.check(sort, ([],), [0])

    def test_one_row(self):
        self.check(sort, ([[]],), [1, 0])
        self.check(sort, ([[3, 2, 1]],), [1, 3, 3, 2, 1])
        self.check(sort, ([[9] * 31],), [1, 31] + [9] * 31)

    def test_rows_alike(self):
        self.written(["a", "a"], ["a", "a"])
        self.written(["b", "a", "b", "a", "b"], ["a", "a", "b", "b", "b"])
        self.sorts([[7] * 31] * 100, [[7] * 31] * 100)

    def test_one_list_as_several_rows(self):
        row = [2, 1]
        self.assertEqual(sort([row, [1], row]), [3, 1, 1, 2, 2, 1, 2, 2, 1])
        self.assertEqual(row, [2, 1])

    def test_empty_rows(self):
        self.written(["", ""], ["", ""])
        self.written(["a", "", "b", ""], ["", "", "a", "b"])
        self.sorts([[0], []], [[], [0]])
        self.sorts([[]] * 100, [[]] * 100)

    def test_a_beginning_comes_before_what_it_begins(self):
        self.written(["abc", "ab", "a"], ["a", "ab", "abc"])
        self.sorts([[5, 0, 0], [5], [5, 0]], [[5], [5, 0], [5, 0, 0]])
        self.sorts([[1] * 31, [1] * 30], [[1] * 30, [1] * 31])

    def test_the_first_difference_counts_ahead_of_the_length(self):
        self.written(["b", "abc", "aa"], ["aa", "abc", "b"])
        self.sorts([[2], [1] * 31], [[1] * 31, [2]])

    def test_capitals_come_before_small_letters(self):
        self.written(["a", "B", "b", "A", "_"], ["A", "B", "_", "a", "b"])

    def test_in_order_and_in_the_opposite_order(self):
        rows = [[byte] for byte in range(100)]
        self.sorts(rows, rows)
        self.sorts(rows[::-1], rows)
        rows = [[byte, byte + 1] for byte in range(156, 256) if byte < 255]
        self.sorts(rows, rows)
        self.sorts(rows[::-1], rows)

    def test_bytes_0_and_255(self):
        self.sorts([[255], [0]], [[0], [255]])
        self.sorts([[255, 255], [0, 255], [255, 0], [0, 0]], [[0, 0], [0, 255], [255, 0], [255, 255]])
        self.sorts([[128], [127], [255], [1], [0]], [[0], [1], [127], [128], [255]])
        self.sorts([[10], [9], [100]], [[9], [10], [100]])

    def test_only_the_last_byte_differs(self):
        rows = [[8] * 30 + [byte] for byte in (200, 3, 255, 0, 8)]
        self.sorts(rows, [[8] * 30 + [byte] for byte in (0, 3, 8, 200, 255)])

    def test_100_rows_of_31_bytes(self):
        rows = [[(row * 37 + place * row * 11) % 256 for place in range(31)] for row in range(100)]
        self.sorts(rows, [list(row) for row in sorted(bytes(row) for row in rows)])
        alike = [[row % 3] * 31 for row in range(100)]
        self.sorts(alike, [[0] * 31] * 34 + [[1] * 31] * 33 + [[2] * 31] * 33)

    def test_neighbours_stand_in_the_order_of_compare(self):
        rows = [[(row * row * 7 + place) % 5 for place in range(row % 4)] for row in range(60)]
        answer = sort(rows)
        found = []
        at = 1
        while at < len(answer):
            found.append(answer[at + 1:at + 1 + answer[at]])
            at += 1 + answer[at]
        self.assertEqual(len(found), 60)
        for before, behind in zip(found, found[1:]):
            self.assertIn(compare(0, before, behind), ([-1], [0]))

    def test_what_was_handed_in_stays(self):
        rows = [[3, 1, 2], [], [3, 1], [255] * 31]
        within = list(rows)
        answer = sort(rows)
        self.assertEqual(rows, [[3, 1, 2], [], [3, 1], [255] * 31])
        for before, now in zip(within, rows):
            self.assertIs(before, now)
        answer.clear()
        self.assertEqual(rows, [[3, 1, 2], [], [3, 1], [255] * 31])

    def test_all_orders_of_some_rows(self):
        wanted = [[], [0], [0, 255], [1], [255]]
        for rows in itertools.permutations(wanted):
            self.sorts(list(rows), wanted)


if __name__ == "__main__":
    unittest.main()
