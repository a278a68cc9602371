import itertools
import unittest

from exactlutes.intervals import add, is_interval, sub
from support import (
    EQUAL_FIFTH, FIFTH, INTERVALS, NO_INTERVALS, OCTAVE, UNISON, GuardedList, check_answer, check_second_call,
    interval_of_powers, opposite, ratio,
)


def expected_sum(x, y):
    return interval_of_powers([p + q for p, q in zip(ratio(x), ratio(y))])


def expected_difference(x, y):
    return interval_of_powers([p - q for p, q in zip(ratio(x), ratio(y))])


class AddAndSub(unittest.TestCase):
    def check_all(self, function, rows):
        for x, y, expected in rows:
            with self.subTest(function=function.__name__, x=x, y=y):
                check_answer(self, function(x, y), expected)

    def check_sums(self, rows):
        """Rows of x, y and what add answers; sub of y's opposite answers the same."""
        self.check_all(add, rows)
        self.check_all(add, [(y, x, expected) for x, y, expected in rows])
        self.check_all(sub, [(x, opposite(y), expected) for x, y, expected in rows])
        self.check_all(sub, [(y, opposite(x), expected) for x, y, expected in rows])

    def test_the_same_d(self):
        self.check_sums([
            (FIFTH, OCTAVE, [1, 0, 1, 0, 0, 1]),
            (FIFTH, FIFTH, [1, -2, 2, 0, 0, 1]),
            ([1, 2, 3, 4, 7], [10, 20, 30, 40, 7], [1, 11, 22, 33, 44, 7]),
            ([7, 0, 0, 0, 12], [4, 0, 0, 1, 12], [1, 11, 0, 0, 1, 12]),
            ([-5, 6, -7, 8, 24], [4, -3, 2, -1, 24], [1, -1, 3, -5, 7, 24]),
        ])
        self.check_all(sub, [
            (OCTAVE, FIFTH, [1, 2, -1, 0, 0, 1]),
            (FIFTH, OCTAVE, [1, -2, 1, 0, 0, 1]),
            ([10, 20, 30, 40, 7], [1, 2, 3, 4, 7], [1, 9, 18, 27, 36, 7]),
            ([1, 2, 3, 4, 7], [10, 20, 30, 40, 7], [1, -9, -18, -27, -36, 7]),
        ])

    def test_different_d(self):
        self.check_sums([
            (FIFTH, EQUAL_FIFTH, [1, -5, 12, 0, 0, 12]),
            ([1, 0, 0, 0, 2], [0, 1, 0, 0, 3], [1, 3, 2, 0, 0, 6]),
            ([1, 0, 0, 0, 4], [1, 0, 0, 0, 6], [1, 5, 0, 0, 0, 12]),
            ([1, -1, 2, -2, 8], [1, 1, 1, 1, 3], [1, 11, 5, 14, 2, 24]),
            ([1, 0, 0, 0, 8], [1, 0, 0, 0, 12], [1, 5, 0, 0, 0, 24]),
        ])
        self.check_all(sub, [
            (FIFTH, EQUAL_FIFTH, [1, -19, 12, 0, 0, 12]),
            (EQUAL_FIFTH, FIFTH, [1, 19, -12, 0, 0, 12]),
            ([1, 0, 0, 0, 4], [1, 0, 0, 0, 6], [1, 1, 0, 0, 0, 12]),
            ([1, 0, 0, 0, 6], [1, 0, 0, 0, 4], [1, -1, 0, 0, 0, 12]),
        ])

    def test_brought_to_lowest_terms(self):
        self.check_sums([
            ([7, 0, 0, 0, 12], [5, 0, 0, 0, 12], [1, 1, 0, 0, 0, 1]),
            ([7, 0, 0, 0, 12], [1, 0, 0, 0, 6], [1, 3, 0, 0, 0, 4]),
            ([1, 0, 0, 0, 12], [1, 0, 0, 0, 12], [1, 1, 0, 0, 0, 6]),
            ([1, 0, 0, 0, 6], [1, 0, 0, 0, 12], [1, 1, 0, 0, 0, 4]),
            ([1, 2, 3, 4, 24], [5, 4, 3, 2, 24], [1, 1, 1, 1, 1, 4]),
            ([1, 0, 1, 0, 2], [-1, 2, 3, 4, 2], [1, 0, 1, 2, 2, 1]),
            ([0, 0, 0, 1, 24], [0, 0, 0, 23, 24], [1, 0, 0, 0, 1, 1]),
        ])

    def test_the_unison_on_either_side(self):
        for x in INTERVALS:
            self.check_sums([(x, UNISON, [1] + x)])
            self.check_all(sub, [(x, UNISON, [1] + x), (UNISON, x, [1] + opposite(x))])

    def test_an_interval_and_its_opposite(self):
        for x in INTERVALS:
            self.check_all(add, [(x, opposite(x), [1] + UNISON), (opposite(x), x, [1] + UNISON)])
            self.check_all(sub, [(x, x, [1] + UNISON), (x, list(x), [1] + UNISON)])

    def test_edges_of_the_powers(self):
        for place in range(4):
            for sign in (1, -1):
                for p, q, fits in ((98, 1, True), (99, 1, False), (50, 49, True), (50, 50, False), (99, 99, False)):
                    x = list(UNISON)
                    x[place] = sign * p
                    y = list(UNISON)
                    y[place] = sign * q
                    both = list(UNISON)
                    both[place] = sign * (p + q)
                    self.check_sums([(x, y, [1] + both if fits else [0])])
        self.check_sums([
            ([99, 0, 0, 0, 1], [0, -99, 99, -99, 1], [1, 99, -99, 99, -99, 1]),
            ([98, 0, 0, 0, 23], [1, -99, 99, -99, 23], [1, 99, -99, 99, -99, 23]),
            ([98, 0, 0, 0, 23], [2, -99, 99, -99, 23], [0]),
            ([49, 0, 0, 0, 23], [2, 0, 0, 0, 1], [1, 95, 0, 0, 0, 23]),
            ([49, 0, 0, 0, 23], [3, 0, 0, 0, 1], [0]),
            ([99, 0, 0, 0, 2], [99, 0, 0, 0, 4], [0]),
        ])

    def test_edges_of_d(self):
        self.check_sums([
            ([1, 0, 0, 0, 3], [0, 1, 0, 0, 8], [1, 8, 3, 0, 0, 24]),
            ([1, 0, 0, 0, 24], [0, 1, 0, 0, 24], [1, 1, 1, 0, 0, 24]),
            ([1, 0, 0, 0, 24], [1, 0, 0, 0, 12], [1, 1, 0, 0, 0, 8]),
            ([1, 0, 0, 0, 23], [0, 1, 0, 0, 1], [1, 1, 23, 0, 0, 23]),
            ([1, 0, 0, 0, 5], [0, 1, 0, 0, 5], [1, 1, 1, 0, 0, 5]),
            ([1, 0, 0, 0, 5], [0, 1, 0, 0, 7], [0]),
            ([1, 0, 0, 0, 5], [0, 1, 0, 0, 6], [0]),
            ([1, 0, 0, 0, 2], [0, 1, 0, 0, 13], [0]),
            ([1, 0, 0, 0, 24], [0, 1, 0, 0, 5], [0]),
            ([1, 0, 0, 0, 24], [1, 0, 0, 0, 23], [0]),
            ([1, 0, 0, 0, 16], [1, 0, 0, 0, 12], [0]),
        ])

    def test_into_the_ranges_only_in_lowest_terms(self):
        self.check_sums([
            ([99, 0, 0, 0, 2], [99, 0, 0, 0, 2], [1, 99, 0, 0, 0, 1]),
            ([-99, 0, 0, 0, 2], [-99, 0, 0, 0, 2], [1, -99, 0, 0, 0, 1]),
            ([0, 97, 0, 0, 12], [0, 95, 0, 0, 12], [1, 0, 16, 0, 0, 1]),
            ([1, 99, 0, 0, 2], [1, 99, 0, 0, 2], [1, 1, 99, 0, 0, 1]),
            ([1, 0, 0, 0, 16], [5, 0, 0, 0, 16], [1, 3, 0, 0, 0, 8]),
            ([10, 0, 0, 0, 21], [4, 0, 0, 0, 21], [1, 2, 0, 0, 0, 3]),
            ([1, 0, 0, 0, 10], [1, 0, 0, 0, 15], [1, 1, 0, 0, 0, 6]),
            ([95, 0, 0, 0, 24], [97, 0, 0, 0, 24], [1, 8, 0, 0, 0, 1]),
        ])
        self.check_sums([
            ([0, 0, 0, 99, 2], [0, 0, 1, 99, 2], [0]),
            ([1, 0, 0, 0, 10], [1, 1, 0, 0, 15], [0]),
        ])

    def test_either_or_both_no_interval(self):
        for wrong in NO_INTERVALS:
            for x in INTERVALS:
                self.check_all(add, [(wrong, x, [0]), (x, wrong, [0])])
                self.check_all(sub, [(wrong, x, [0]), (x, wrong, [0])])
            for other in NO_INTERVALS:
                self.check_all(add, [(wrong, other, [0])])
                self.check_all(sub, [(wrong, other, [0])])
            self.check_all(add, [(wrong, wrong, [0])])
            self.check_all(sub, [(wrong, wrong, [0])])

    def test_no_interval_though_the_sum_would_be_one(self):
        self.check_all(add, [
            ([100, 0, 0, 0, 1], [-1, 0, 0, 0, 1], [0]),
            ([100, 0, 0, 0, 1], [-100, 0, 0, 0, 1], [0]),
            ([2, 0, 0, 0, 2], UNISON, [0]),
            ([1, 0, 0, 0, 48], [1, 0, 0, 0, 48], [0]),
        ])
        self.check_all(sub, [
            ([100, 0, 0, 0, 1], OCTAVE, [0]),
            ([100, 0, 0, 0, 1], [100, 0, 0, 0, 1], [0]),
            (UNISON, [0, 0, 0, 0, 2], [0]),
        ])

    def test_every_two_of_many(self):
        powers = itertools.product((-99, -6, 0, 5), (-50, 0, 4), (0, 3), (-1, 0, 98), (1, 2, 5, 6, 12, 24))
        intervals = [list(five) for five in powers if is_interval(list(five)) == [1]]
        for x, y in itertools.product(intervals[::3], intervals[::4]):
            if add(x, y) != expected_sum(x, y):
                self.fail(f"{x} and {y} added should be answered {expected_sum(x, y)}")
            if sub(x, y) != expected_difference(x, y):
                self.fail(f"{y} taken from {x} should be answered {expected_difference(x, y)}")


class Group(unittest.TestCase):
    def test_either_order(self):
        for x, y in itertools.product(INTERVALS, INTERVALS):
            self.assertEqual(add(x, y), add(y, x))

    def test_three_either_way(self):
        seen = 0
        for x, y, z in itertools.product(INTERVALS, INTERVALS, INTERVALS):
            left = add(x, y)
            right = add(y, z)
            if left[0] == 1 and right[0] == 1:
                seen += 1
                self.assertEqual(add(left[1:], z), add(x, right[1:]), (x, y, z))
        self.assertGreater(seen, 1000)

    def test_added_and_taken_away(self):
        seen = 0
        for x, y in itertools.product(INTERVALS, INTERVALS):
            both = add(x, y)
            less = sub(x, y)
            if both[0] == 1:
                seen += 1
                self.assertEqual(sub(both[1:], y), [1] + x)
                self.assertEqual(sub(both[1:], x), [1] + y)
            if less[0] == 1:
                seen += 1
                self.assertEqual(add(less[1:], y), [1] + x)
                self.assertEqual(sub(y, x), [1] + opposite(less[1:]))
        self.assertGreater(seen, 300)

    def test_what_is_answered_is_in_its_one_form(self):
        for x, y in itertools.product(INTERVALS, INTERVALS):
            for answer in (add(x, y), sub(x, y)):
                if answer != [0]:
                    self.assertEqual(len(answer), 6)
                    self.assertEqual(answer[0], 1)
                    self.assertEqual(is_interval(answer[1:]), [1])


class HandedIn(unittest.TestCase):
    def test_what_is_handed_in_stays(self):
        lists = INTERVALS + NO_INTERVALS
        for first, second in itertools.product(lists, lists[::3]):
            x = GuardedList(first)
            y = GuardedList(second)
            for function in (add, sub):
                function(x, y)
                self.assertEqual([list(x), list(y)], [first, second])

    def test_x_and_y_one_and_the_same_list(self):
        for first, doubled in (
            (FIFTH, [1, -2, 2, 0, 0, 1]), ([1, 0, 0, 0, 12], [1, 1, 0, 0, 0, 6]), (UNISON, [1] + UNISON),
            ([50, 0, 0, 0, 1], [0]), ([100, 0, 0, 0, 1], [0]), ([], [0]),
        ):
            x = GuardedList(first)
            check_answer(self, add(x, x), doubled)
            check_answer(self, sub(x, x), [1] + UNISON if is_interval(first) == [1] else [0])
            self.assertEqual(list(x), first)

    def test_what_is_answered_is_a_new_list(self):
        x = list(FIFTH)
        answer = add(x, UNISON)
        answer[1] = 77
        self.assertEqual(x, FIFTH)

    def test_a_second_call_answers_as_the_first(self):
        for function in (add, sub):
            for x, y in ((FIFTH, EQUAL_FIFTH), ([99, 0, 0, 0, 1], [1, 0, 0, 0, 5]), ([1, 2], FIFTH), (FIFTH, UNISON)):
                check_second_call(self, function, (x, y), function(list(x), list(y)))

    def test_arguments_by_name(self):
        check_answer(self, sub(y=FIFTH, x=OCTAVE), [1, 2, -1, 0, 0, 1])
        check_answer(self, add(y=FIFTH, x=OCTAVE), [1, 0, 1, 0, 0, 1])


if __name__ == "__main__":
    unittest.main()
